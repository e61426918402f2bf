/- A drawn deck. -/
import Derived.Test.YtohnddjijedfkaaDqk
import Derived.Test.YtohnddjijedfkaaDzk
import Derived.Test.YtohnddjijedfkaaZgk
import Derived.Test.YtohnddjijedfkaaZqk
import Derived.Test.YtohnddjijedfkaaIwk
import Derived.Test.YtohnddjijedfkaaVvk
namespace Go.Proofs.Ytohnddjijedfkaa
open Go.ChangeShapes Go.WideShapes Go.ChangeAt Go.RowKit
set_option linter.unusedVariables false
set_option linter.unusedSimpArgs false

theorem chanceD (p : Nat) (a : Option Addr) (len cap n : Nat) (m : Int) (w : World) (hs : Src w p a len cap n) (hn : n + 3 ≤ 1000000000) (hm0 : 0 ≤ m) (hm : m ≤ 1000000) :
    Calls Try.prog 43 #[.pointer (some ⟨p, 0, none⟩), .int .i64 m] w fun e w' => (∃ b : Bool, e = .returned (.bool b)) ∧ (∃ n', n' ≤ n + 3 ∧ Src w' p a len cap n') ∧ w.grownBy w' (some p) := by
  go_enter Try.func43, Try.ntmps43
  go_wp2_with fail
  refine (next_any _ _ _ _ _ _ _ hs hn).mono ?_
  rintro e w1 ⟨⟨v, rfl, h0, h1, h2⟩, hs1, hg1⟩
  replace hs1 := hid hs1
  replace hg1 := hid hg1
  clear h0 h1 h2 hs
  go_wp2
  go_ret
  exact ⟨⟨_, rfl⟩, hs1.out, hg1.out⟩
def dj_V (p : Nat) (a0 : Option Addr) (len cap n0 b3 : Nat) (a3 : Option Addr) (c3 : Nat) (D : Dk) : Nat → Int × Nat → Value := fun i e => match i with
  | 0 => .agg #[.slice a3 D.pulses.length c3, .int .i64 D.index, .int .i64 D.left, .bool D.level, .bool D.plays]
  | 1 => .pointer (some ⟨p, 0, none⟩)
  | 2 => .int .i64 e.1
  | 3 => .tuple #[.agg #[.slice a3 D.pulses.length c3, .int .i64 (run2 D e.1).1.index, .int .i64 (run2 D e.1).1.left, .bool (run2 D e.1).1.level, .bool (run2 D e.1).1.plays], .int .i64 (run2 D e.1).2]
  | 4 => .tuple #[.agg #[.slice a3 D.pulses.length c3, .int .i64 (run2 D e.1).1.index, .int .i64 (run2 D e.1).1.left, .bool (run2 D e.1).1.level, .bool (run2 D e.1).1.plays], .int .i64 (run2 D e.1).2]
  | 5 => .agg #[.slice a3 D.pulses.length c3, .int .i64 (run2 D e.1).1.index, .int .i64 (run2 D e.1).1.left, .bool (run2 D e.1).1.level, .bool (run2 D e.1).1.plays]
  | 6 => .int .i64 (run2 D e.1).2
  | 7 => .pointer (some ⟨e.2, 0, none⟩)
  | 9 => .int .i64 (run2 D e.1).2
  | _ => undef
def dj_J (w1 : World) (p : Nat) (a0 : Option Addr) (len cap n0 b3 : Nat) (a3 : Option Addr) (c3 : Nat) (D : Dk) (f : Nat → Bool) (e : Int × Nat) (w : World) : Prop :=
  (∃ n', n' ≤ n0 + (bif f 2 then 3 else 0) ∧ Src w p a0 len cap n') ∧ w1.grownBy w (some p) ∧ (f 2 = true → 0 ≤ e.1 ∧ e.1 < 3000) ∧ (f 7 = true → w1.heap.size ≤ e.2 ∧ Blk w e.2 (bif f 8 then #[.slice a3 D.pulses.length c3, .int .i64 (run2 D e.1).1.index, .int .i64 (run2 D e.1).1.left, .bool (run2 D e.1).1.level, .bool (run2 D e.1).1.plays] else dkZ)) ∧ (f 2 = false → f 3 = false ∧ f 4 = false ∧ f 5 = false ∧ f 6 = false ∧ f 8 = false ∧ f 9 = false) ∧ (f 7 = false → f 8 = false)
def dj_o0 : Oper := ({ dst := some 23, op := Op.load 25 (Operand.tmp 3), type := 25, pos := "l11_deck.go:115", after := #[], guard := none } : Oper)
def dj_o1 : Oper := ({ dst := some 24, op := Op.move (Operand.tmp 0), type := 40, pos := "l11_deck.go:115", after := #[], guard := none } : Oper)
def dj_o2 : Oper := ({ dst := some 25, op := Op.call { callee := Callee.value (Operand.func 44), args := #[Operand.tmp 24, Operand.const (Value.int IntKind.i64 3000)], argTypes := #[40, 3] }, type := 3, pos := "l11_deck.go:115", after := #[{ on := 1, ground := Ground.data }], guard := none } : Oper)
def dj_o3 : Oper := ({ dst := some 26, op := Op.call { callee := Callee.value (Operand.func 30), args := #[Operand.tmp 23, Operand.tmp 25], argTypes := #[25, 3] }, type := 30, pos := "l11_deck.go:115", after := #[{ on := 0, ground := Ground.data }, { on := 2, ground := Ground.data }, { on := 2, ground := Ground.chain }], guard := none } : Oper)
def dj_o4 : Oper := ({ dst := some 22, op := Op.move (Operand.tmp 26), type := 30, pos := "l11_deck.go:115", after := #[{ on := 3, ground := Ground.data }], guard := none } : Oper)
def dj_o5 : Oper := ({ dst := some 27, op := Op.extract (Operand.tmp 22) 0, type := 25, pos := "l11_deck.go:115", after := #[{ on := 4, ground := Ground.data }], guard := none } : Oper)
def dj_o6 : Oper := ({ dst := some 28, op := Op.extract (Operand.tmp 22) 1, type := 3, pos := "l11_deck.go:115", after := #[{ on := 4, ground := Ground.data }, { on := 8, ground := Ground.gcOnly Departure.lateStores }], guard := none } : Oper)
def dj_o7 : Oper := ({ dst := some 5, op := Op.alloc 25, type := 0, pos := "l11_deck.go:115", after := #[], guard := none } : Oper)
def dj_o8 : Oper := ({ dst := none, op := Op.store 25 (Operand.tmp 5) (Operand.tmp 27), type := 0, pos := "l11_deck.go:115", after := #[{ on := 7, ground := Ground.data }, { on := 5, ground := Ground.data }, { on := 3, ground := Ground.chain }, { on := 0, ground := Ground.phase }, { on := 1, ground := Ground.phase }, { on := 2, ground := Ground.phase }, { on := 3, ground := Ground.phase }, { on := 4, ground := Ground.phase }, { on := 5, ground := Ground.phase }, { on := 6, ground := Ground.textOnly Departure.lateStores }, { on := 7, ground := Ground.phase }], guard := none } : Oper)
def dj_o9 : Oper := ({ dst := some 6, op := Op.assign (Operand.tmp 28), type := 3, pos := "l11_deck.go:115", after := #[{ on := 6, ground := Ground.data }, { on := 8, ground := Ground.chain }, { on := 0, ground := Ground.phase }, { on := 1, ground := Ground.phase }, { on := 2, ground := Ground.phase }, { on := 3, ground := Ground.phase }, { on := 4, ground := Ground.phase }, { on := 5, ground := Ground.phase }, { on := 6, ground := Ground.phase }, { on := 7, ground := Ground.phase }, { on := 8, ground := Ground.phase }], guard := none } : Oper)
def dj_O : Array Oper := #[dj_o0, dj_o1, dj_o2, dj_o3, dj_o4, dj_o5, dj_o6, dj_o7, dj_o8, dj_o9]
theorem dj_no {s : Nat} (h : ([23, 24, 25, 26, 22, 27, 28, 5, 6] : List Nat).contains s = false) : ∀ i, dstAt dj_O i ≠ some s := by
  intro i hi
  have hl : i < 10 := by
    rcases Nat.lt_or_ge i 10 with h1 | h1
    · exact h1
    · unfold dstAt at hi
      rw [Array.getElem?_eq_none (by exact h1)] at hi
      cases hi
  rcases (by omega : i = 0 ∨ i = 1 ∨ i = 2 ∨ i = 3 ∨ i = 4 ∨ i = 5 ∨ i = 6 ∨ i = 7 ∨ i = 8 ∨ i = 9) with rfl | rfl | rfl | rfl | rfl | rfl | rfl | rfl | rfl | rfl
  all_goals first
    | (cases hi; simp at h)
    | cases hi
theorem dj_keep2 (p : Nat) (a0 : Option Addr) (len cap n0 b3 : Nat) (a3 : Option Addr) (c3 : Nat) (D : Dk) {f : Nat → Bool} (e : Int × Nat) (t : Int) (hn : f 2 = false) (hd : f 3 = false ∧ f 4 = false ∧ f 5 = false ∧ f 6 = false ∧ f 8 = false ∧ f 9 = false) : ∀ j, f j = true → dj_V p a0 len cap n0 b3 a3 c3 D j (t, e.2) = dj_V p a0 len cap n0 b3 a3 c3 D j e := by
  obtain ⟨h3, h4, h5, h6, _, h9⟩ := hd
  intro j hj
  unfold dj_V
  split
  · rfl
  · rfl
  · rw [hn] at hj; cases hj
  · rw [h3] at hj; cases hj
  · rw [h4] at hj; cases hj
  · rw [h5] at hj; cases hj
  · rw [h6] at hj; cases hj
  · rfl
  · rw [h9] at hj; cases hj
  · rfl
theorem dj_keep7 (p : Nat) (a0 : Option Addr) (len cap n0 b3 : Nat) (a3 : Option Addr) (c3 : Nat) (D : Dk) {f : Nat → Bool} (e : Int × Nat) (b : Nat) (hn : f 7 = false) : ∀ j, f j = true → dj_V p a0 len cap n0 b3 a3 c3 D j (e.1, b) = dj_V p a0 len cap n0 b3 a3 c3 D j e := by
  intro j hj
  unfold dj_V
  split
  · rfl
  · rfl
  · rfl
  · rfl
  · rfl
  · rfl
  · rfl
  · rw [hn] at hj; cases hj
  · rfl
  · rfl
set_option maxRecDepth 100000 in
set_option maxHeartbeats 2000000 in
theorem dj_s0 (A : Act) (w1 : World) (Q : Exit → Act → World → Prop) (p : Nat) (a0 : Option Addr) (len cap n0 b3 : Nat) (a3 : Option Addr) (c3 : Nat) (D : Dk) 
    (h0 : A.tmps.getD 0 undef = .pointer (some ⟨p, 0, none⟩)) (h3 : A.tmps.getD 3 undef = .pointer (some ⟨b3, 0, none⟩)) (q3 : Blk w1 b3 #[.slice a3 D.pulses.length c3, .int .i64 D.index, .int .i64 D.left, .bool D.level, .bool D.plays]) (rr : RowR w1 (.slice a3 D.pulses.length c3) D.pulses) (ap : Apart a3 D.pulses.length p) (hb3 : b3 ≠ p) (hok : D.ok = true) (hp : p < w1.heap.size) (hn0 : n0 ≤ 100000) (hs1 : Src w1.drew p a0 len cap n0)
    (f : Nat → Bool) (e : Int × Nat) (a : Act) (w : World) (hun : f 0 = false) (hdep : ∀ d ∈ dj_o0.after, Region.binds .any d = true → f d.on = true) (hJ : dj_J w1 p a0 len cap n0 b3 a3 c3 D f e w) (hFr : Fr dj_O A f (fun j => dj_V p a0 len cap n0 b3 a3 c3 D j e) a)
    (K : Act → World → Prop) (hK : Hid (∀ v e' w', v = dj_V p a0 len cap n0 b3 a3 c3 D 0 e' → (∀ j, f j = true → dj_V p a0 len cap n0 b3 a3 c3 D j e' = dj_V p a0 len cap n0 b3 a3 c3 D j e) → dj_J w1 p a0 len cap n0 b3 a3 c3 D (fun j => j == 0 || f j) e' w' → K (a.put dj_o0.dst v) w')) :
    if Region.wanted dj_o0 (yielded dj_O a.tmps) = true then Oper.wp Try.prog dj_o0 a w K Q else K (a.put dj_o0.dst undef) w := by
  unfold dj_o0 at hdep hK ⊢
  have hK9 := hK
  obtain ⟨⟨n9, hn9, hs9⟩, hg9, j2, j7, jd, je⟩ := hJ
  have v3 := (hFr.old 3 (dj_no (by decide))).trans h3
  have x0 := (q3.grown hg9 (by simpa using hb3)).cell
  replace hs9 := hid hs9
  replace hg9 := hid hg9
  replace j2 := hid j2
  replace j7 := hid j7
  replace jd := hid jd
  replace je := hid je
  clear hdep hFr h0 h3
  go_simp
  exact hK9.out _ e _ rfl (fun _ _ => rfl) ⟨⟨n9, hn9, hs9.out⟩, hg9.out, j2.out, j7.out, jd.out, je.out⟩
set_option maxRecDepth 100000 in
set_option maxHeartbeats 2000000 in
theorem dj_s1 (A : Act) (w1 : World) (Q : Exit → Act → World → Prop) (p : Nat) (a0 : Option Addr) (len cap n0 b3 : Nat) (a3 : Option Addr) (c3 : Nat) (D : Dk) 
    (h0 : A.tmps.getD 0 undef = .pointer (some ⟨p, 0, none⟩)) (h3 : A.tmps.getD 3 undef = .pointer (some ⟨b3, 0, none⟩)) (q3 : Blk w1 b3 #[.slice a3 D.pulses.length c3, .int .i64 D.index, .int .i64 D.left, .bool D.level, .bool D.plays]) (rr : RowR w1 (.slice a3 D.pulses.length c3) D.pulses) (ap : Apart a3 D.pulses.length p) (hb3 : b3 ≠ p) (hok : D.ok = true) (hp : p < w1.heap.size) (hn0 : n0 ≤ 100000) (hs1 : Src w1.drew p a0 len cap n0)
    (f : Nat → Bool) (e : Int × Nat) (a : Act) (w : World) (hun : f 1 = false) (hdep : ∀ d ∈ dj_o1.after, Region.binds .any d = true → f d.on = true) (hJ : dj_J w1 p a0 len cap n0 b3 a3 c3 D f e w) (hFr : Fr dj_O A f (fun j => dj_V p a0 len cap n0 b3 a3 c3 D j e) a)
    (K : Act → World → Prop) (hK : Hid (∀ v e' w', v = dj_V p a0 len cap n0 b3 a3 c3 D 1 e' → (∀ j, f j = true → dj_V p a0 len cap n0 b3 a3 c3 D j e' = dj_V p a0 len cap n0 b3 a3 c3 D j e) → dj_J w1 p a0 len cap n0 b3 a3 c3 D (fun j => j == 1 || f j) e' w' → K (a.put dj_o1.dst v) w')) :
    if Region.wanted dj_o1 (yielded dj_O a.tmps) = true then Oper.wp Try.prog dj_o1 a w K Q else K (a.put dj_o1.dst undef) w := by
  unfold dj_o1 at hdep hK ⊢
  have hK9 := hK
  obtain ⟨⟨n9, hn9, hs9⟩, hg9, j2, j7, jd, je⟩ := hJ
  have v0 := (hFr.old 0 (dj_no (by decide))).trans h0
  replace hs9 := hid hs9
  replace hg9 := hid hg9
  replace j2 := hid j2
  replace j7 := hid j7
  replace jd := hid jd
  replace je := hid je
  clear hdep hFr h0 h3
  go_simp
  exact hK9.out _ e _ rfl (fun _ _ => rfl) ⟨⟨n9, hn9, hs9.out⟩, hg9.out, j2.out, j7.out, jd.out, je.out⟩
set_option maxRecDepth 100000 in
set_option maxHeartbeats 2000000 in
theorem dj_s2 (A : Act) (w1 : World) (Q : Exit → Act → World → Prop) (p : Nat) (a0 : Option Addr) (len cap n0 b3 : Nat) (a3 : Option Addr) (c3 : Nat) (D : Dk) 
    (h0 : A.tmps.getD 0 undef = .pointer (some ⟨p, 0, none⟩)) (h3 : A.tmps.getD 3 undef = .pointer (some ⟨b3, 0, none⟩)) (q3 : Blk w1 b3 #[.slice a3 D.pulses.length c3, .int .i64 D.index, .int .i64 D.left, .bool D.level, .bool D.plays]) (rr : RowR w1 (.slice a3 D.pulses.length c3) D.pulses) (ap : Apart a3 D.pulses.length p) (hb3 : b3 ≠ p) (hok : D.ok = true) (hp : p < w1.heap.size) (hn0 : n0 ≤ 100000) (hs1 : Src w1.drew p a0 len cap n0)
    (f : Nat → Bool) (e : Int × Nat) (a : Act) (w : World) (hun : f 2 = false) (hdep : ∀ d ∈ dj_o2.after, Region.binds .any d = true → f d.on = true) (hJ : dj_J w1 p a0 len cap n0 b3 a3 c3 D f e w) (hFr : Fr dj_O A f (fun j => dj_V p a0 len cap n0 b3 a3 c3 D j e) a)
    (K : Act → World → Prop) (hK : Hid (∀ v e' w', v = dj_V p a0 len cap n0 b3 a3 c3 D 2 e' → (∀ j, f j = true → dj_V p a0 len cap n0 b3 a3 c3 D j e' = dj_V p a0 len cap n0 b3 a3 c3 D j e) → dj_J w1 p a0 len cap n0 b3 a3 c3 D (fun j => j == 2 || f j) e' w' → K (a.put dj_o2.dst v) w')) :
    if Region.wanted dj_o2 (yielded dj_O a.tmps) = true then Oper.wp Try.prog dj_o2 a w K Q else K (a.put dj_o2.dst undef) w := by
  unfold dj_o2 at hdep hK ⊢
  have hK9 := hK
  obtain ⟨⟨n9, hn9, hs9⟩, hg9, j2, j7, jd, je⟩ := hJ
  have k1 : f 1 = true := hdep { on := 1, ground := .data } (by simp) rfl
  have v24 : a.tmps.getD 24 undef = .pointer (some ⟨p, 0, none⟩) := hFr.new 1 24 rfl k1
  rw [hun] at hn9
  replace hs9 := hid hs9
  replace hg9 := hid hg9
  replace j2 := hid j2
  replace j7 := hid j7
  replace jd := hid jd
  replace je := hid je
  clear hdep hFr h0 h3
  go_simp
  go_at_call 44
  refine (next_any p a0 len cap n9 3000 w hs9.out (by simp at hn9; omega)).mono ?_
  rintro r w' ⟨⟨t, rfl, t0, _, t1⟩, ⟨n8, hn8, hs8⟩, hg8⟩
  have t2 := t1 (by omega)
  replace hs8 := hid hs8
  replace hg8 := hid hg8
  clear t1
  go_simp
  refine hK9.out _ (t, e.2) _ rfl (dj_keep2 p a0 len cap n0 b3 a3 c3 D e t hun (jd.out hun)) ⟨⟨n8, by show n8 ≤ n0 + 3; simp at hn9; omega, hs8.out⟩, gtrans hg9.out hg8.out, fun _ => ⟨t0, t2⟩, fun h => ⟨(j7.out h).1, ?_⟩, (fun h => (by cases h)), je.out⟩
  have h8 : f 8 = false := (jd.out hun).2.2.2.2.1
  have := (j7.out h).2
  rw [h8] at this
  show Blk w' e.2 (bif f 8 then _ else dkZ)
  rw [h8]
  exact this.grown hg8.out (by have := (j7.out h).1; simp; omega)
set_option maxRecDepth 100000 in
set_option maxHeartbeats 2000000 in
theorem dj_s3 (A : Act) (w1 : World) (Q : Exit → Act → World → Prop) (p : Nat) (a0 : Option Addr) (len cap n0 b3 : Nat) (a3 : Option Addr) (c3 : Nat) (D : Dk) 
    (h0 : A.tmps.getD 0 undef = .pointer (some ⟨p, 0, none⟩)) (h3 : A.tmps.getD 3 undef = .pointer (some ⟨b3, 0, none⟩)) (q3 : Blk w1 b3 #[.slice a3 D.pulses.length c3, .int .i64 D.index, .int .i64 D.left, .bool D.level, .bool D.plays]) (rr : RowR w1 (.slice a3 D.pulses.length c3) D.pulses) (ap : Apart a3 D.pulses.length p) (hb3 : b3 ≠ p) (hok : D.ok = true) (hp : p < w1.heap.size) (hn0 : n0 ≤ 100000) (hs1 : Src w1.drew p a0 len cap n0)
    (f : Nat → Bool) (e : Int × Nat) (a : Act) (w : World) (hun : f 3 = false) (hdep : ∀ d ∈ dj_o3.after, Region.binds .any d = true → f d.on = true) (hJ : dj_J w1 p a0 len cap n0 b3 a3 c3 D f e w) (hFr : Fr dj_O A f (fun j => dj_V p a0 len cap n0 b3 a3 c3 D j e) a)
    (K : Act → World → Prop) (hK : Hid (∀ v e' w', v = dj_V p a0 len cap n0 b3 a3 c3 D 3 e' → (∀ j, f j = true → dj_V p a0 len cap n0 b3 a3 c3 D j e' = dj_V p a0 len cap n0 b3 a3 c3 D j e) → dj_J w1 p a0 len cap n0 b3 a3 c3 D (fun j => j == 3 || f j) e' w' → K (a.put dj_o3.dst v) w')) :
    if Region.wanted dj_o3 (yielded dj_O a.tmps) = true then Oper.wp Try.prog dj_o3 a w K Q else K (a.put dj_o3.dst undef) w := by
  unfold dj_o3 at hdep hK ⊢
  have hK9 := hK
  obtain ⟨⟨n9, hn9, hs9⟩, hg9, j2, j7, jd, je⟩ := hJ
  have k0 : f 0 = true := hdep { on := 0, ground := .data } (by simp) rfl
  have v23 : a.tmps.getD 23 undef = .agg #[.slice a3 D.pulses.length c3, .int .i64 D.index, .int .i64 D.left, .bool D.level, .bool D.plays] := hFr.new 0 23 rfl k0
  have k2 : f 2 = true := hdep { on := 2, ground := .data } (by simp) rfl
  have v25 : a.tmps.getD 25 undef = .int .i64 e.1 := hFr.new 2 25 rfl k2
  have k2' := k2
  have hr9 := rr.apart hg9 ap
  obtain ⟨t0, t1⟩ := j2 k2
  replace hr9 := hid hr9
  replace hs9 := hid hs9
  replace hg9 := hid hg9
  replace j2 := hid j2
  replace j7 := hid j7
  replace jd := hid jd
  replace je := hid je
  clear hdep hFr h0 h3
  go_simp
  go_at_call 30
  refine (lrun_spec a3 c3 D e.1 w hr9.out hok t0 (by omega)).mono ?_
  rintro r w' ⟨rfl, hb'⟩
  replace hb' := hid hb'
  go_simp
  exact hK9.out _ e _ rfl (fun _ _ => rfl) ⟨⟨n9, hn9, hs9.out.kept (r := none) ⟨hb'.out.os, hb'.out.tape, hb'.out.output, hb'.out.size, fun k hk _ => hb'.out.block k hk⟩ (fun g e => by cases e)⟩, gtrans hg9.out ⟨hb'.out.os, hb'.out.tape, hb'.out.output, hb'.out.size, fun k hk _ => hb'.out.block k hk⟩, j2.out, fun h => ⟨(j7.out h).1, (j7.out h).2.below hb'.out (j7.out h).2.lt⟩, (fun h => absurd k2' (by rw [show f 2 = false from h]; exact fun h => (by cases h))), je.out⟩
set_option maxRecDepth 100000 in
set_option maxHeartbeats 2000000 in
theorem dj_s4 (A : Act) (w1 : World) (Q : Exit → Act → World → Prop) (p : Nat) (a0 : Option Addr) (len cap n0 b3 : Nat) (a3 : Option Addr) (c3 : Nat) (D : Dk) 
    (h0 : A.tmps.getD 0 undef = .pointer (some ⟨p, 0, none⟩)) (h3 : A.tmps.getD 3 undef = .pointer (some ⟨b3, 0, none⟩)) (q3 : Blk w1 b3 #[.slice a3 D.pulses.length c3, .int .i64 D.index, .int .i64 D.left, .bool D.level, .bool D.plays]) (rr : RowR w1 (.slice a3 D.pulses.length c3) D.pulses) (ap : Apart a3 D.pulses.length p) (hb3 : b3 ≠ p) (hok : D.ok = true) (hp : p < w1.heap.size) (hn0 : n0 ≤ 100000) (hs1 : Src w1.drew p a0 len cap n0)
    (f : Nat → Bool) (e : Int × Nat) (a : Act) (w : World) (hun : f 4 = false) (hdep : ∀ d ∈ dj_o4.after, Region.binds .any d = true → f d.on = true) (hJ : dj_J w1 p a0 len cap n0 b3 a3 c3 D f e w) (hFr : Fr dj_O A f (fun j => dj_V p a0 len cap n0 b3 a3 c3 D j e) a)
    (K : Act → World → Prop) (hK : Hid (∀ v e' w', v = dj_V p a0 len cap n0 b3 a3 c3 D 4 e' → (∀ j, f j = true → dj_V p a0 len cap n0 b3 a3 c3 D j e' = dj_V p a0 len cap n0 b3 a3 c3 D j e) → dj_J w1 p a0 len cap n0 b3 a3 c3 D (fun j => j == 4 || f j) e' w' → K (a.put dj_o4.dst v) w')) :
    if Region.wanted dj_o4 (yielded dj_O a.tmps) = true then Oper.wp Try.prog dj_o4 a w K Q else K (a.put dj_o4.dst undef) w := by
  unfold dj_o4 at hdep hK ⊢
  have hK9 := hK
  obtain ⟨⟨n9, hn9, hs9⟩, hg9, j2, j7, jd, je⟩ := hJ
  have k3 : f 3 = true := hdep { on := 3, ground := .data } (by simp) rfl
  have v26 : a.tmps.getD 26 undef = .tuple #[.agg #[.slice a3 D.pulses.length c3, .int .i64 (run2 D e.1).1.index, .int .i64 (run2 D e.1).1.left, .bool (run2 D e.1).1.level, .bool (run2 D e.1).1.plays], .int .i64 (run2 D e.1).2] := hFr.new 3 26 rfl k3
  have k2' : f 2 = true := by
    cases h2 : f 2
    · have := jd h2
      simp_all
    · rfl
  replace hs9 := hid hs9
  replace hg9 := hid hg9
  replace j2 := hid j2
  replace j7 := hid j7
  replace jd := hid jd
  replace je := hid je
  clear hdep hFr h0 h3
  go_simp
  exact hK9.out _ e _ rfl (fun _ _ => rfl) ⟨⟨n9, hn9, hs9.out⟩, hg9.out, j2.out, j7.out, (fun h => absurd k2' (by rw [show f 2 = false from h]; exact fun h => (by cases h))), je.out⟩
set_option maxRecDepth 100000 in
set_option maxHeartbeats 2000000 in
theorem dj_s5 (A : Act) (w1 : World) (Q : Exit → Act → World → Prop) (p : Nat) (a0 : Option Addr) (len cap n0 b3 : Nat) (a3 : Option Addr) (c3 : Nat) (D : Dk) 
    (h0 : A.tmps.getD 0 undef = .pointer (some ⟨p, 0, none⟩)) (h3 : A.tmps.getD 3 undef = .pointer (some ⟨b3, 0, none⟩)) (q3 : Blk w1 b3 #[.slice a3 D.pulses.length c3, .int .i64 D.index, .int .i64 D.left, .bool D.level, .bool D.plays]) (rr : RowR w1 (.slice a3 D.pulses.length c3) D.pulses) (ap : Apart a3 D.pulses.length p) (hb3 : b3 ≠ p) (hok : D.ok = true) (hp : p < w1.heap.size) (hn0 : n0 ≤ 100000) (hs1 : Src w1.drew p a0 len cap n0)
    (f : Nat → Bool) (e : Int × Nat) (a : Act) (w : World) (hun : f 5 = false) (hdep : ∀ d ∈ dj_o5.after, Region.binds .any d = true → f d.on = true) (hJ : dj_J w1 p a0 len cap n0 b3 a3 c3 D f e w) (hFr : Fr dj_O A f (fun j => dj_V p a0 len cap n0 b3 a3 c3 D j e) a)
    (K : Act → World → Prop) (hK : Hid (∀ v e' w', v = dj_V p a0 len cap n0 b3 a3 c3 D 5 e' → (∀ j, f j = true → dj_V p a0 len cap n0 b3 a3 c3 D j e' = dj_V p a0 len cap n0 b3 a3 c3 D j e) → dj_J w1 p a0 len cap n0 b3 a3 c3 D (fun j => j == 5 || f j) e' w' → K (a.put dj_o5.dst v) w')) :
    if Region.wanted dj_o5 (yielded dj_O a.tmps) = true then Oper.wp Try.prog dj_o5 a w K Q else K (a.put dj_o5.dst undef) w := by
  unfold dj_o5 at hdep hK ⊢
  have hK9 := hK
  obtain ⟨⟨n9, hn9, hs9⟩, hg9, j2, j7, jd, je⟩ := hJ
  have k4 : f 4 = true := hdep { on := 4, ground := .data } (by simp) rfl
  have v22 : a.tmps.getD 22 undef = .tuple #[.agg #[.slice a3 D.pulses.length c3, .int .i64 (run2 D e.1).1.index, .int .i64 (run2 D e.1).1.left, .bool (run2 D e.1).1.level, .bool (run2 D e.1).1.plays], .int .i64 (run2 D e.1).2] := hFr.new 4 22 rfl k4
  have k2' : f 2 = true := by
    cases h2 : f 2
    · have := jd h2
      simp_all
    · rfl
  replace hs9 := hid hs9
  replace hg9 := hid hg9
  replace j2 := hid j2
  replace j7 := hid j7
  replace jd := hid jd
  replace je := hid je
  clear hdep hFr h0 h3
  go_simp
  exact hK9.out _ e _ rfl (fun _ _ => rfl) ⟨⟨n9, hn9, hs9.out⟩, hg9.out, j2.out, j7.out, (fun h => absurd k2' (by rw [show f 2 = false from h]; exact fun h => (by cases h))), je.out⟩
set_option maxRecDepth 100000 in
set_option maxHeartbeats 2000000 in
theorem dj_s6 (A : Act) (w1 : World) (Q : Exit → Act → World → Prop) (p : Nat) (a0 : Option Addr) (len cap n0 b3 : Nat) (a3 : Option Addr) (c3 : Nat) (D : Dk) 
    (h0 : A.tmps.getD 0 undef = .pointer (some ⟨p, 0, none⟩)) (h3 : A.tmps.getD 3 undef = .pointer (some ⟨b3, 0, none⟩)) (q3 : Blk w1 b3 #[.slice a3 D.pulses.length c3, .int .i64 D.index, .int .i64 D.left, .bool D.level, .bool D.plays]) (rr : RowR w1 (.slice a3 D.pulses.length c3) D.pulses) (ap : Apart a3 D.pulses.length p) (hb3 : b3 ≠ p) (hok : D.ok = true) (hp : p < w1.heap.size) (hn0 : n0 ≤ 100000) (hs1 : Src w1.drew p a0 len cap n0)
    (f : Nat → Bool) (e : Int × Nat) (a : Act) (w : World) (hun : f 6 = false) (hdep : ∀ d ∈ dj_o6.after, Region.binds .any d = true → f d.on = true) (hJ : dj_J w1 p a0 len cap n0 b3 a3 c3 D f e w) (hFr : Fr dj_O A f (fun j => dj_V p a0 len cap n0 b3 a3 c3 D j e) a)
    (K : Act → World → Prop) (hK : Hid (∀ v e' w', v = dj_V p a0 len cap n0 b3 a3 c3 D 6 e' → (∀ j, f j = true → dj_V p a0 len cap n0 b3 a3 c3 D j e' = dj_V p a0 len cap n0 b3 a3 c3 D j e) → dj_J w1 p a0 len cap n0 b3 a3 c3 D (fun j => j == 6 || f j) e' w' → K (a.put dj_o6.dst v) w')) :
    if Region.wanted dj_o6 (yielded dj_O a.tmps) = true then Oper.wp Try.prog dj_o6 a w K Q else K (a.put dj_o6.dst undef) w := by
  unfold dj_o6 at hdep hK ⊢
  have hK9 := hK
  obtain ⟨⟨n9, hn9, hs9⟩, hg9, j2, j7, jd, je⟩ := hJ
  have k4 : f 4 = true := hdep { on := 4, ground := .data } (by simp) rfl
  have v22 : a.tmps.getD 22 undef = .tuple #[.agg #[.slice a3 D.pulses.length c3, .int .i64 (run2 D e.1).1.index, .int .i64 (run2 D e.1).1.left, .bool (run2 D e.1).1.level, .bool (run2 D e.1).1.plays], .int .i64 (run2 D e.1).2] := hFr.new 4 22 rfl k4
  have k2' : f 2 = true := by
    cases h2 : f 2
    · have := jd h2
      simp_all
    · rfl
  replace hs9 := hid hs9
  replace hg9 := hid hg9
  replace j2 := hid j2
  replace j7 := hid j7
  replace jd := hid jd
  replace je := hid je
  clear hdep hFr h0 h3
  go_simp
  exact hK9.out _ e _ rfl (fun _ _ => rfl) ⟨⟨n9, hn9, hs9.out⟩, hg9.out, j2.out, j7.out, (fun h => absurd k2' (by rw [show f 2 = false from h]; exact fun h => (by cases h))), je.out⟩
set_option maxRecDepth 100000 in
set_option maxHeartbeats 2000000 in
theorem dj_s7 (A : Act) (w1 : World) (Q : Exit → Act → World → Prop) (p : Nat) (a0 : Option Addr) (len cap n0 b3 : Nat) (a3 : Option Addr) (c3 : Nat) (D : Dk) 
    (h0 : A.tmps.getD 0 undef = .pointer (some ⟨p, 0, none⟩)) (h3 : A.tmps.getD 3 undef = .pointer (some ⟨b3, 0, none⟩)) (q3 : Blk w1 b3 #[.slice a3 D.pulses.length c3, .int .i64 D.index, .int .i64 D.left, .bool D.level, .bool D.plays]) (rr : RowR w1 (.slice a3 D.pulses.length c3) D.pulses) (ap : Apart a3 D.pulses.length p) (hb3 : b3 ≠ p) (hok : D.ok = true) (hp : p < w1.heap.size) (hn0 : n0 ≤ 100000) (hs1 : Src w1.drew p a0 len cap n0)
    (f : Nat → Bool) (e : Int × Nat) (a : Act) (w : World) (hun : f 7 = false) (hdep : ∀ d ∈ dj_o7.after, Region.binds .any d = true → f d.on = true) (hJ : dj_J w1 p a0 len cap n0 b3 a3 c3 D f e w) (hFr : Fr dj_O A f (fun j => dj_V p a0 len cap n0 b3 a3 c3 D j e) a)
    (K : Act → World → Prop) (hK : Hid (∀ v e' w', v = dj_V p a0 len cap n0 b3 a3 c3 D 7 e' → (∀ j, f j = true → dj_V p a0 len cap n0 b3 a3 c3 D j e' = dj_V p a0 len cap n0 b3 a3 c3 D j e) → dj_J w1 p a0 len cap n0 b3 a3 c3 D (fun j => j == 7 || f j) e' w' → K (a.put dj_o7.dst v) w')) :
    if Region.wanted dj_o7 (yielded dj_O a.tmps) = true then Oper.wp Try.prog dj_o7 a w K Q else K (a.put dj_o7.dst undef) w := by
  unfold dj_o7 at hdep hK ⊢
  have hK9 := hK
  obtain ⟨⟨n9, hn9, hs9⟩, hg9, j2, j7, jd, je⟩ := hJ
  have hal := hid ((Below.refl w.heap.size w).alloc (Nat.le_refl _) (.cells dkZ 25))
  have hq := hid (Blk.new w dkZ 25)
  have h8 := hid (je hun)
  replace hs9 := hid hs9
  replace hg9 := hid hg9
  replace j2 := hid j2
  replace j7 := hid j7
  replace jd := hid jd
  replace je := hid je
  clear hdep hFr h0 h3
  go_simp
  refine hK9.out _ (e.1, w.heap.size) _ rfl (dj_keep7 p a0 len cap n0 b3 a3 c3 D e w.heap.size hun) ⟨⟨n9, hn9, hs9.out.kept (r := none) ⟨rfl, rfl, rfl, hal.out.size, fun k hk _ => hal.out.block k hk⟩ (fun g e => by cases e)⟩, gtrans hg9.out ⟨rfl, rfl, rfl, hal.out.size, fun k hk _ => hal.out.block k hk⟩, j2.out, fun _ => ⟨hg9.out.size, ?_⟩, jd.out, (fun h => (by cases h))⟩
  show Blk _ w.heap.size (bif f 8 then _ else dkZ)
  rw [h8.out]
  exact hq.out
set_option maxRecDepth 100000 in
set_option maxHeartbeats 2000000 in
theorem dj_s8 (A : Act) (w1 : World) (Q : Exit → Act → World → Prop) (p : Nat) (a0 : Option Addr) (len cap n0 b3 : Nat) (a3 : Option Addr) (c3 : Nat) (D : Dk) 
    (h0 : A.tmps.getD 0 undef = .pointer (some ⟨p, 0, none⟩)) (h3 : A.tmps.getD 3 undef = .pointer (some ⟨b3, 0, none⟩)) (q3 : Blk w1 b3 #[.slice a3 D.pulses.length c3, .int .i64 D.index, .int .i64 D.left, .bool D.level, .bool D.plays]) (rr : RowR w1 (.slice a3 D.pulses.length c3) D.pulses) (ap : Apart a3 D.pulses.length p) (hb3 : b3 ≠ p) (hok : D.ok = true) (hp : p < w1.heap.size) (hn0 : n0 ≤ 100000) (hs1 : Src w1.drew p a0 len cap n0)
    (f : Nat → Bool) (e : Int × Nat) (a : Act) (w : World) (hun : f 8 = false) (hdep : ∀ d ∈ dj_o8.after, Region.binds .any d = true → f d.on = true) (hJ : dj_J w1 p a0 len cap n0 b3 a3 c3 D f e w) (hFr : Fr dj_O A f (fun j => dj_V p a0 len cap n0 b3 a3 c3 D j e) a)
    (K : Act → World → Prop) (hK : Hid (∀ v e' w', v = dj_V p a0 len cap n0 b3 a3 c3 D 8 e' → (∀ j, f j = true → dj_V p a0 len cap n0 b3 a3 c3 D j e' = dj_V p a0 len cap n0 b3 a3 c3 D j e) → dj_J w1 p a0 len cap n0 b3 a3 c3 D (fun j => j == 8 || f j) e' w' → K (a.put dj_o8.dst v) w')) :
    if Region.wanted dj_o8 (yielded dj_O a.tmps) = true then Oper.wp Try.prog dj_o8 a w K Q else K (a.put dj_o8.dst undef) w := by
  unfold dj_o8 at hdep hK ⊢
  have hK9 := hK
  obtain ⟨⟨n9, hn9, hs9⟩, hg9, j2, j7, jd, je⟩ := hJ
  have k7 : f 7 = true := hdep { on := 7, ground := .data } (by simp) rfl
  have v5 : a.tmps.getD 5 undef = .pointer (some ⟨e.2, 0, none⟩) := hFr.new 7 5 rfl k7
  have k5 : f 5 = true := hdep { on := 5, ground := .data } (by simp) rfl
  have v27 : a.tmps.getD 27 undef = .agg #[.slice a3 D.pulses.length c3, .int .i64 (run2 D e.1).1.index, .int .i64 (run2 D e.1).1.left, .bool (run2 D e.1).1.level, .bool (run2 D e.1).1.plays] := hFr.new 5 27 rfl k5
  have k2' : f 2 = true := by
    cases h2 : f 2
    · have := jd h2
      simp_all
    · rfl
  obtain ⟨b0, b1⟩ := j7 k7
  rw [hun] at b1
  have b1 : Blk w e.2 dkZ := b1
  have x8 := b1.cell
  have f8 := b1.frozen
  have l8 := b1.lt
  have q8 := hid (lay5_blk b1 rfl (.slice a3 D.pulses.length c3) (run2 D e.1).1.index (run2 D e.1).1.left (run2 D e.1).1.level (run2 D e.1).1.plays)
  have g8 := hid (lay5_grown w e.2 (.slice a3 D.pulses.length c3) (run2 D e.1).1.index (run2 D e.1).1.left (run2 D e.1).1.level (run2 D e.1).1.plays)
  dsimp only [lay5] at q8 g8
  replace b0 := hid b0
  replace hs9 := hid hs9
  replace hg9 := hid hg9
  replace j2 := hid j2
  replace j7 := hid j7
  replace jd := hid jd
  replace je := hid je
  clear hdep hFr h0 h3
  go_simp
  refine hK9.out _ e _ rfl (fun _ _ => rfl) ⟨⟨n9, hn9, hs9.out.kept g8.out (fun g e => by cases e; have := b0.out; omega)⟩, ⟨g8.out.os.trans hg9.out.os, g8.out.tape.trans hg9.out.tape, g8.out.output.trans hg9.out.output, Nat.le_trans hg9.out.size g8.out.size, fun k hk hne => ?_⟩, j2.out, fun _ => ⟨b0.out, q8.out⟩, (fun h => absurd k2' (by rw [show f 2 = false from h]; exact fun h => (by cases h))), (fun h => absurd k7 (by rw [show f 7 = false from h]; exact fun h => (by cases h)))⟩
  rw [g8.out.block k (Nat.lt_of_lt_of_le hk hg9.out.size) (by have := b0.out; simp; omega)]
  exact hg9.out.block k hk hne
set_option maxRecDepth 100000 in
set_option maxHeartbeats 2000000 in
theorem dj_s9 (A : Act) (w1 : World) (Q : Exit → Act → World → Prop) (p : Nat) (a0 : Option Addr) (len cap n0 b3 : Nat) (a3 : Option Addr) (c3 : Nat) (D : Dk) 
    (h0 : A.tmps.getD 0 undef = .pointer (some ⟨p, 0, none⟩)) (h3 : A.tmps.getD 3 undef = .pointer (some ⟨b3, 0, none⟩)) (q3 : Blk w1 b3 #[.slice a3 D.pulses.length c3, .int .i64 D.index, .int .i64 D.left, .bool D.level, .bool D.plays]) (rr : RowR w1 (.slice a3 D.pulses.length c3) D.pulses) (ap : Apart a3 D.pulses.length p) (hb3 : b3 ≠ p) (hok : D.ok = true) (hp : p < w1.heap.size) (hn0 : n0 ≤ 100000) (hs1 : Src w1.drew p a0 len cap n0)
    (f : Nat → Bool) (e : Int × Nat) (a : Act) (w : World) (hun : f 9 = false) (hdep : ∀ d ∈ dj_o9.after, Region.binds .any d = true → f d.on = true) (hJ : dj_J w1 p a0 len cap n0 b3 a3 c3 D f e w) (hFr : Fr dj_O A f (fun j => dj_V p a0 len cap n0 b3 a3 c3 D j e) a)
    (K : Act → World → Prop) (hK : Hid (∀ v e' w', v = dj_V p a0 len cap n0 b3 a3 c3 D 9 e' → (∀ j, f j = true → dj_V p a0 len cap n0 b3 a3 c3 D j e' = dj_V p a0 len cap n0 b3 a3 c3 D j e) → dj_J w1 p a0 len cap n0 b3 a3 c3 D (fun j => j == 9 || f j) e' w' → K (a.put dj_o9.dst v) w')) :
    if Region.wanted dj_o9 (yielded dj_O a.tmps) = true then Oper.wp Try.prog dj_o9 a w K Q else K (a.put dj_o9.dst undef) w := by
  unfold dj_o9 at hdep hK ⊢
  have hK9 := hK
  obtain ⟨⟨n9, hn9, hs9⟩, hg9, j2, j7, jd, je⟩ := hJ
  have k6 : f 6 = true := hdep { on := 6, ground := .data } (by simp) rfl
  have v28 : a.tmps.getD 28 undef = .int .i64 (run2 D e.1).2 := hFr.new 6 28 rfl k6
  have k2' : f 2 = true := by
    cases h2 : f 2
    · have := jd h2
      simp_all
    · rfl
  replace hs9 := hid hs9
  replace hg9 := hid hg9
  replace j2 := hid j2
  replace j7 := hid j7
  replace jd := hid jd
  replace je := hid je
  clear hdep hFr h0 h3
  go_simp
  exact hK9.out _ e _ rfl (fun _ _ => rfl) ⟨⟨n9, hn9, hs9.out⟩, hg9.out, j2.out, j7.out, (fun h => absurd k2' (by rw [show f 2 = false from h]; exact fun h => (by cases h))), je.out⟩
set_option maxRecDepth 100000 in
set_option maxHeartbeats 4000000 in
theorem dj_reg (A : Act) (w1 : World) (Q : Exit → Act → World → Prop) (p : Nat) (a0 : Option Addr) (len cap n0 b3 : Nat) (a3 : Option Addr) (c3 : Nat) (D : Dk) 
    (h0 : A.tmps.getD 0 undef = .pointer (some ⟨p, 0, none⟩)) (h3 : A.tmps.getD 3 undef = .pointer (some ⟨b3, 0, none⟩)) (q3 : Blk w1 b3 #[.slice a3 D.pulses.length c3, .int .i64 D.index, .int .i64 D.left, .bool D.level, .bool D.plays]) (rr : RowR w1 (.slice a3 D.pulses.length c3) D.pulses) (ap : Apart a3 D.pulses.length p) (hb3 : b3 ≠ p) (hok : D.ok = true) (hp : p < w1.heap.size) (hn0 : n0 ≤ 100000) (hs1 : Src w1.drew p a0 len cap n0) (hN : 29 ≤ A.tmps.size)
    (h : ∀ (w : World) (e : Int × Nat), (∃ n', n' ≤ n0 + 3 ∧ Src w p a0 len cap n') ∧ w1.grownBy w (some p) ∧ (0 ≤ e.1 ∧ e.1 < 3000) ∧ w1.heap.size ≤ e.2 ∧ Blk w e.2 #[.slice a3 D.pulses.length c3, .int .i64 (run2 D e.1).1.index, .int .i64 (run2 D e.1).1.left, .bool (run2 D e.1).1.level, .bool (run2 D e.1).1.plays] → Q .normal (putsA A [(23, .agg #[.slice a3 D.pulses.length c3, .int .i64 D.index, .int .i64 D.left, .bool D.level, .bool D.plays]), (24, .pointer (some ⟨p, 0, none⟩)), (25, .int .i64 e.1), (26, .tuple #[.agg #[.slice a3 D.pulses.length c3, .int .i64 (run2 D e.1).1.index, .int .i64 (run2 D e.1).1.left, .bool (run2 D e.1).1.level, .bool (run2 D e.1).1.plays], .int .i64 (run2 D e.1).2]), (22, .tuple #[.agg #[.slice a3 D.pulses.length c3, .int .i64 (run2 D e.1).1.index, .int .i64 (run2 D e.1).1.left, .bool (run2 D e.1).1.level, .bool (run2 D e.1).1.plays], .int .i64 (run2 D e.1).2]), (27, .agg #[.slice a3 D.pulses.length c3, .int .i64 (run2 D e.1).1.index, .int .i64 (run2 D e.1).1.left, .bool (run2 D e.1).1.level, .bool (run2 D e.1).1.plays]), (28, .int .i64 (run2 D e.1).2), (5, .pointer (some ⟨e.2, 0, none⟩)), (6, .int .i64 (run2 D e.1).2)]) w) :
    (Code.region 3 #[({ dst := some 23, op := Op.load 25 (Operand.tmp 3), type := 25, pos := "l11_deck.go:115", after := #[], guard := none } : Oper), ({ dst := some 24, op := Op.move (Operand.tmp 0), type := 40, pos := "l11_deck.go:115", after := #[], guard := none } : Oper), ({ dst := some 25, op := Op.call { callee := Callee.value (Operand.func 44), args := #[Operand.tmp 24, Operand.const (Value.int IntKind.i64 3000)], argTypes := #[40, 3] }, type := 3, pos := "l11_deck.go:115", after := #[{ on := 1, ground := Ground.data }], guard := none } : Oper), ({ dst := some 26, op := Op.call { callee := Callee.value (Operand.func 30), args := #[Operand.tmp 23, Operand.tmp 25], argTypes := #[25, 3] }, type := 30, pos := "l11_deck.go:115", after := #[{ on := 0, ground := Ground.data }, { on := 2, ground := Ground.data }, { on := 2, ground := Ground.chain }], guard := none } : Oper), ({ dst := some 22, op := Op.move (Operand.tmp 26), type := 30, pos := "l11_deck.go:115", after := #[{ on := 3, ground := Ground.data }], guard := none } : Oper), ({ dst := some 27, op := Op.extract (Operand.tmp 22) 0, type := 25, pos := "l11_deck.go:115", after := #[{ on := 4, ground := Ground.data }], guard := none } : Oper), ({ dst := some 28, op := Op.extract (Operand.tmp 22) 1, type := 3, pos := "l11_deck.go:115", after := #[{ on := 4, ground := Ground.data }, { on := 8, ground := Ground.gcOnly Departure.lateStores }], guard := none } : Oper), ({ dst := some 5, op := Op.alloc 25, type := 0, pos := "l11_deck.go:115", after := #[], guard := none } : Oper), ({ dst := none, op := Op.store 25 (Operand.tmp 5) (Operand.tmp 27), type := 0, pos := "l11_deck.go:115", after := #[{ on := 7, ground := Ground.data }, { on := 5, ground := Ground.data }, { on := 3, ground := Ground.chain }, { on := 0, ground := Ground.phase }, { on := 1, ground := Ground.phase }, { on := 2, ground := Ground.phase }, { on := 3, ground := Ground.phase }, { on := 4, ground := Ground.phase }, { on := 5, ground := Ground.phase }, { on := 6, ground := Ground.textOnly Departure.lateStores }, { on := 7, ground := Ground.phase }], guard := none } : Oper), ({ dst := some 6, op := Op.assign (Operand.tmp 28), type := 3, pos := "l11_deck.go:115", after := #[{ on := 6, ground := Ground.data }, { on := 8, ground := Ground.chain }, { on := 0, ground := Ground.phase }, { on := 1, ground := Ground.phase }, { on := 2, ground := Ground.phase }, { on := 3, ground := Ground.phase }, { on := 4, ground := Ground.phase }, { on := 5, ground := Ground.phase }, { on := 6, ground := Ground.phase }, { on := 7, ground := Ground.phase }, { on := 8, ground := Ground.phase }], guard := none } : Oper)] true).wp Try.prog Q A w1 := by
  show (Code.region 3 dj_O true).wp Try.prog Q A w1
  refine wp_region_slots (E := Int × Nat) (dj_V p a0 len cap n0 b3 a3 c3 D) (dj_J w1 p a0 len cap n0 b3 a3 c3 D) (by kernel_rfl) (by kernel_rfl) (by kernel_rfl) (fun i s hi => ?_) ?_ (0, 0) ⟨⟨n0, Nat.le_refl _, hs1⟩, gdrewN w1 1 (some p), fun h => (by cases h), fun h => (by cases h), fun _ => ⟨rfl, rfl, rfl, rfl, rfl, rfl⟩, fun _ => rfl⟩ ?_
  · cases hc : ([23, 24, 25, 26, 22, 27, 28, 5, 6] : List Nat).contains s
    · exact absurd hi (dj_no hc i)
    · have : s ∈ ([23, 24, 25, 26, 22, 27, 28, 5, 6] : List Nat) := by simpa using hc
      simp only [List.mem_cons, List.not_mem_nil, or_false] at this
      omega
  · intro f e a w i o hi ho hun hdep hJ hFr K hK
    have hi8 : i < 10 := hi
    rcases (by omega : i = 0 ∨ i = 1 ∨ i = 2 ∨ i = 3 ∨ i = 4 ∨ i = 5 ∨ i = 6 ∨ i = 7 ∨ i = 8 ∨ i = 9) with rfl | rfl | rfl | rfl | rfl | rfl | rfl | rfl | rfl | rfl
    · obtain rfl := Option.some.inj ho
      exact dj_s0 A w1 Q p a0 len cap n0 b3 a3 c3 D h0 h3 q3 rr ap hb3 hok hp hn0 hs1 f e a w hun hdep hJ hFr K hK
    · obtain rfl := Option.some.inj ho
      exact dj_s1 A w1 Q p a0 len cap n0 b3 a3 c3 D h0 h3 q3 rr ap hb3 hok hp hn0 hs1 f e a w hun hdep hJ hFr K hK
    · obtain rfl := Option.some.inj ho
      exact dj_s2 A w1 Q p a0 len cap n0 b3 a3 c3 D h0 h3 q3 rr ap hb3 hok hp hn0 hs1 f e a w hun hdep hJ hFr K hK
    · obtain rfl := Option.some.inj ho
      exact dj_s3 A w1 Q p a0 len cap n0 b3 a3 c3 D h0 h3 q3 rr ap hb3 hok hp hn0 hs1 f e a w hun hdep hJ hFr K hK
    · obtain rfl := Option.some.inj ho
      exact dj_s4 A w1 Q p a0 len cap n0 b3 a3 c3 D h0 h3 q3 rr ap hb3 hok hp hn0 hs1 f e a w hun hdep hJ hFr K hK
    · obtain rfl := Option.some.inj ho
      exact dj_s5 A w1 Q p a0 len cap n0 b3 a3 c3 D h0 h3 q3 rr ap hb3 hok hp hn0 hs1 f e a w hun hdep hJ hFr K hK
    · obtain rfl := Option.some.inj ho
      exact dj_s6 A w1 Q p a0 len cap n0 b3 a3 c3 D h0 h3 q3 rr ap hb3 hok hp hn0 hs1 f e a w hun hdep hJ hFr K hK
    · obtain rfl := Option.some.inj ho
      exact dj_s7 A w1 Q p a0 len cap n0 b3 a3 c3 D h0 h3 q3 rr ap hb3 hok hp hn0 hs1 f e a w hun hdep hJ hFr K hK
    · obtain rfl := Option.some.inj ho
      exact dj_s8 A w1 Q p a0 len cap n0 b3 a3 c3 D h0 h3 q3 rr ap hb3 hok hp hn0 hs1 f e a w hun hdep hJ hFr K hK
    · obtain rfl := Option.some.inj ho
      exact dj_s9 A w1 Q p a0 len cap n0 b3 a3 c3 D h0 h3 q3 rr ap hb3 hok hp hn0 hs1 f e a w hun hdep hJ hFr K hK
  · intro f e a w hall hJ hFr
    have := h w e (by
      obtain ⟨⟨n9, hn9, hs9⟩, hg9, j2, j7, _⟩ := hJ
      have f2 := hall 2 (by decide)
      have f7 := hall 7 (by decide)
      have f8 := hall 8 (by decide)
      rw [f2] at hn9
      obtain ⟨b0, b1⟩ := j7 f7
      rw [f8] at b1
      exact ⟨⟨n9, hn9, hs9⟩, hg9, j2 f2, b0, b1⟩)
    rw [hFr.eq [(23, .agg #[.slice a3 D.pulses.length c3, .int .i64 D.index, .int .i64 D.left, .bool D.level, .bool D.plays]), (24, .pointer (some ⟨p, 0, none⟩)), (25, .int .i64 e.1), (26, .tuple #[.agg #[.slice a3 D.pulses.length c3, .int .i64 (run2 D e.1).1.index, .int .i64 (run2 D e.1).1.left, .bool (run2 D e.1).1.level, .bool (run2 D e.1).1.plays], .int .i64 (run2 D e.1).2]), (22, .tuple #[.agg #[.slice a3 D.pulses.length c3, .int .i64 (run2 D e.1).1.index, .int .i64 (run2 D e.1).1.left, .bool (run2 D e.1).1.level, .bool (run2 D e.1).1.plays], .int .i64 (run2 D e.1).2]), (27, .agg #[.slice a3 D.pulses.length c3, .int .i64 (run2 D e.1).1.index, .int .i64 (run2 D e.1).1.left, .bool (run2 D e.1).1.level, .bool (run2 D e.1).1.plays]), (28, .int .i64 (run2 D e.1).2), (5, .pointer (some ⟨e.2, 0, none⟩)), (6, .int .i64 (run2 D e.1).2)] (fun s hs => ?_) (fun i s hi => ?_)]
    · exact this
    · have hne : ∀ k ∈ ([23, 24, 25, 26, 22, 27, 28, 5, 6] : List Nat), k ≠ s := by
        intro k hk e2
        subst e2
        simp only [List.mem_cons, List.not_mem_nil, or_false] at hk
        rcases hk with rfl | rfl | rfl | rfl | rfl | rfl | rfl | rfl | rfl
        · exact hs 0 rfl
        · exact hs 1 rfl
        · exact hs 2 rfl
        · exact hs 3 rfl
        · exact hs 4 rfl
        · exact hs 5 rfl
        · exact hs 6 rfl
        · exact hs 7 rfl
        · exact hs 9 rfl
      simp only [lookA]
      simp [hne]
    · have hl : i < 10 := by
        rcases Nat.lt_or_ge i 10 with h1 | h1
        · exact h1
        · unfold dstAt at hi
          rw [Array.getElem?_eq_none (by exact h1)] at hi
          cases hi
      refine ⟨hall i hl, ?_⟩
      rcases (by omega : i = 0 ∨ i = 1 ∨ i = 2 ∨ i = 3 ∨ i = 4 ∨ i = 5 ∨ i = 6 ∨ i = 7 ∨ i = 8 ∨ i = 9) with rfl | rfl | rfl | rfl | rfl | rfl | rfl | rfl | rfl | rfl
      all_goals first
        | (cases hi; rfl)
        | cases hi
end Go.Proofs.Ytohnddjijedfkaa
