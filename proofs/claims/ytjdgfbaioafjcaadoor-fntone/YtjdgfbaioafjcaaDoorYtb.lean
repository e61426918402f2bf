/- A drawn region of the law FnTone: whatever the order, the answer lies in a variable of its own. -/
import Derived.Test.YtjdgfbaioafjcaaDoorYw
import Derived.Test.YtjdgfbaioafjcaaDoorYp
import Derived.Test.YtjdgfbaioafjcaaDoorIw
namespace Go.Proofs.YtjdgfbaioafjcaaDoor
open Go.ChangeShapes Go.WideShapes Go.ChangeAt Go.RowKit
set_option linter.unusedVariables false
set_option linter.unusedSimpArgs false

def ytb_V (q R : Sg) (a1 : Option Addr) (len1 cap1 n : Nat) : Nat → Nat → Value := fun i e => match i with
  | 0 => sgV q
  | 1 => .slice a1 len1 cap1
  | 2 => .int .i64 (n : Int)
  | 3 => ansS (R, 0)
  | 4 => ansS (R, 0)
  | 5 => sgV R
  | 6 => .int .i64 0
  | 7 => .pointer (some ⟨e, 0, none⟩)
  | 9 => .int .i64 0
  | _ => undef
def ytb_J (w1 : World) (R : Sg) (f : Nat → Bool) (e : Nat) (w : World) : Prop :=
  Below w1.heap.size w1 w ∧ (f 7 = true → Blk w e (bif f 8 then sgA R else sgA zeS) ∧ w1.heap.size ≤ e) ∧ (f 8 = true → f 7 = true)
def ytb_o0 : Oper := ({ dst := some 75, op := Op.load 27 (Operand.tmp 15), type := 27, pos := "laws.go:498", after := #[], guard := none } : Oper)
def ytb_o1 : Oper := ({ dst := some 76, op := Op.move (Operand.tmp 1), type := 22, pos := "laws.go:498", after := #[], guard := none } : Oper)
def ytb_o2 : Oper := ({ dst := some 77, op := Op.call { callee := Callee.value (Operand.func 10), args := #[Operand.tmp 76, Operand.const (Value.int IntKind.i64 1), Operand.const (Value.int IntKind.i64 60)], argTypes := #[22, 3, 3] }, type := 3, pos := "laws.go:498", after := #[{ on := 1, ground := Ground.data }], guard := none } : Oper)
def ytb_o3 : Oper := ({ dst := some 78, op := Op.call { callee := Callee.value (Operand.func 18), args := #[Operand.tmp 75, Operand.tmp 77], argTypes := #[27, 3] }, type := 30, pos := "laws.go:498", after := #[{ on := 0, ground := Ground.data }, { on := 2, ground := Ground.data }, { on := 2, ground := Ground.chain }], guard := none } : Oper)
def ytb_o4 : Oper := ({ dst := some 74, op := Op.move (Operand.tmp 78), type := 30, pos := "laws.go:498", after := #[{ on := 3, ground := Ground.data }], guard := none } : Oper)
def ytb_o5 : Oper := ({ dst := some 79, op := Op.extract (Operand.tmp 74) 0, type := 27, pos := "laws.go:498", after := #[{ on := 4, ground := Ground.data }], guard := none } : Oper)
def ytb_o6 : Oper := ({ dst := some 80, op := Op.extract (Operand.tmp 74) 1, type := 3, pos := "laws.go:498", after := #[{ on := 4, ground := Ground.data }, { on := 8, ground := Ground.gcOnly Departure.lateStores }], guard := none } : Oper)
def ytb_o7 : Oper := ({ dst := some 18, op := Op.alloc 27, type := 0, pos := "laws.go:498", after := #[], guard := none } : Oper)
def ytb_o8 : Oper := ({ dst := none, op := Op.store 27 (Operand.tmp 18) (Operand.tmp 79), type := 0, pos := "laws.go:498", after := #[{ on := 7, ground := Ground.data }, { on := 5, ground := Ground.data }, { on := 3, ground := Ground.chain }, { on := 0, ground := Ground.phase }, { on := 1, ground := Ground.phase }, { on := 2, ground := Ground.phase }, { on := 3, ground := Ground.phase }, { on := 4, ground := Ground.phase }, { on := 5, ground := Ground.phase }, { on := 6, ground := Ground.textOnly Departure.lateStores }, { on := 7, ground := Ground.phase }], guard := none } : Oper)
def ytb_o9 : Oper := ({ dst := some 19, op := Op.assign (Operand.tmp 80), type := 3, pos := "laws.go:498", after := #[{ on := 6, ground := Ground.data }, { on := 8, ground := Ground.chain }, { on := 0, ground := Ground.phase }, { on := 1, ground := Ground.phase }, { on := 2, ground := Ground.phase }, { on := 3, ground := Ground.phase }, { on := 4, ground := Ground.phase }, { on := 5, ground := Ground.phase }, { on := 6, ground := Ground.phase }, { on := 7, ground := Ground.phase }, { on := 8, ground := Ground.phase }], guard := none } : Oper)
def ytb_O : Array Oper := #[ytb_o0, ytb_o1, ytb_o2, ytb_o3, ytb_o4, ytb_o5, ytb_o6, ytb_o7, ytb_o8, ytb_o9]
theorem ytb_no {s : Nat} (h : ([75, 76, 77, 78, 74, 79, 80, 18, 19] : List Nat).contains s = false) : ∀ i, dstAt ytb_O i ≠ some s := by
  intro i hi
  have hl : i < 10 := by
    rcases Nat.lt_or_ge i 10 with h1 | h1
    · exact h1
    · unfold dstAt at hi
      rw [Array.getElem?_eq_none (by exact h1)] at hi
      cases hi
  rcases (by omega : i = 0 ∨ i = 1 ∨ i = 2 ∨ i = 3 ∨ i = 4 ∨ i = 5 ∨ i = 6 ∨ i = 7 ∨ i = 8 ∨ i = 9) with rfl | rfl | rfl | rfl | rfl | rfl | rfl | rfl | rfl | rfl
  all_goals first
    | (cases hi; simp at h)
    | cases hi
theorem ytb_keep (q R : Sg) (a1 : Option Addr) (len1 cap1 n : Nat) {f : Nat → Bool} (e e' : Nat) (h7 : f 7 = false) : ∀ j, f j = true → ytb_V q R a1 len1 cap1 n j e' = ytb_V q R a1 len1 cap1 n j e := by
  intro j hj
  unfold ytb_V
  split
  · rfl
  · rfl
  · rfl
  · rfl
  · rfl
  · rfl
  · rfl
  · rw [h7] at hj; cases hj
  · rfl
  · rfl
set_option maxRecDepth 100000 in
set_option maxHeartbeats 2000000 in
theorem ytb_s0 (A : Act) (w1 : World) (Q : Exit → Act → World → Prop) (q R : Sg) (a1 : Option Addr) (len1 cap1 n : Nat) (b : Nat)
    (hq : A.tmps.getD 15 undef = .pointer (some ⟨b, 0, none⟩)) (hm : A.tmps.getD 1 undef = .slice a1 len1 cap1) (qb : Blk w1 b (sgA q))
    (hat : ∀ W, Below w1.heap.size w1 W → Calls Tryd.prog 10 #[.slice a1 len1 cap1, .int .i64 1, .int .i64 60] W fun r w' => r = .returned (.int .i64 (n : Int)) ∧ Below W.heap.size W w')
    (hF : ∀ W, Below w1.heap.size w1 W → Calls Tryd.prog 18 #[sgV q, .int .i64 (n : Int)] W fun r w' => r = .returned (ansS (R, 0)) ∧ Below W.heap.size W w')
    (f : Nat → Bool) (e : Nat) (a : Act) (w : World) (hun : f 0 = false) (hdep : ∀ d ∈ ytb_o0.after, Region.binds .any d = true → f d.on = true) (hJ : ytb_J w1 R f e w) (hFr : Fr ytb_O A f (fun j => ytb_V q R a1 len1 cap1 n j e) a)
    (K : Act → World → Prop) (hK : Hid (∀ v e' w', v = ytb_V q R a1 len1 cap1 n 0 e' → (∀ j, f j = true → ytb_V q R a1 len1 cap1 n j e' = ytb_V q R a1 len1 cap1 n j e) → ytb_J w1 R (fun j => j == 0 || f j) e' w' → K (a.put ytb_o0.dst v) w')) :
    if Region.wanted ytb_o0 (yielded ytb_O a.tmps) = true then Oper.wp Tryd.prog ytb_o0 a w K Q else K (a.put ytb_o0.dst undef) w := by
  unfold ytb_o0 at hdep hK ⊢
  obtain ⟨hB, h7, h87⟩ := hJ
  have v15 := (hFr.old 15 (ytb_no (by decide))).trans hq
  rw [if_pos (by rfl)]
  refine wp_load_mid 27 _ rfl b 0 v15 (sgA q).toList _ (sg_range (qb.below hB qb.lt)) Tryd.underlying27 rfl (sg_size q) ?_
  exact hK.out _ e _ rfl (fun _ _ => rfl) ⟨hB, h7, h87⟩
set_option maxRecDepth 100000 in
set_option maxHeartbeats 2000000 in
theorem ytb_s1 (A : Act) (w1 : World) (Q : Exit → Act → World → Prop) (q R : Sg) (a1 : Option Addr) (len1 cap1 n : Nat) (b : Nat)
    (hq : A.tmps.getD 15 undef = .pointer (some ⟨b, 0, none⟩)) (hm : A.tmps.getD 1 undef = .slice a1 len1 cap1) (qb : Blk w1 b (sgA q))
    (hat : ∀ W, Below w1.heap.size w1 W → Calls Tryd.prog 10 #[.slice a1 len1 cap1, .int .i64 1, .int .i64 60] W fun r w' => r = .returned (.int .i64 (n : Int)) ∧ Below W.heap.size W w')
    (hF : ∀ W, Below w1.heap.size w1 W → Calls Tryd.prog 18 #[sgV q, .int .i64 (n : Int)] W fun r w' => r = .returned (ansS (R, 0)) ∧ Below W.heap.size W w')
    (f : Nat → Bool) (e : Nat) (a : Act) (w : World) (hun : f 1 = false) (hdep : ∀ d ∈ ytb_o1.after, Region.binds .any d = true → f d.on = true) (hJ : ytb_J w1 R f e w) (hFr : Fr ytb_O A f (fun j => ytb_V q R a1 len1 cap1 n j e) a)
    (K : Act → World → Prop) (hK : Hid (∀ v e' w', v = ytb_V q R a1 len1 cap1 n 1 e' → (∀ j, f j = true → ytb_V q R a1 len1 cap1 n j e' = ytb_V q R a1 len1 cap1 n j e) → ytb_J w1 R (fun j => j == 1 || f j) e' w' → K (a.put ytb_o1.dst v) w')) :
    if Region.wanted ytb_o1 (yielded ytb_O a.tmps) = true then Oper.wp Tryd.prog ytb_o1 a w K Q else K (a.put ytb_o1.dst undef) w := by
  unfold ytb_o1 at hdep hK ⊢
  obtain ⟨hB, h7, h87⟩ := hJ
  have v1 := (hFr.old 1 (ytb_no (by decide))).trans hm
  replace hB := hid hB
  replace h7 := hid h7
  replace h87 := hid h87
  clear hdep hFr hq hm
  go_simp
  exact hK.out _ e _ rfl (fun _ _ => rfl) ⟨hB.out, h7.out, h87.out⟩
set_option maxRecDepth 100000 in
set_option maxHeartbeats 2000000 in
theorem ytb_s2 (A : Act) (w1 : World) (Q : Exit → Act → World → Prop) (q R : Sg) (a1 : Option Addr) (len1 cap1 n : Nat) (b : Nat)
    (hq : A.tmps.getD 15 undef = .pointer (some ⟨b, 0, none⟩)) (hm : A.tmps.getD 1 undef = .slice a1 len1 cap1) (qb : Blk w1 b (sgA q))
    (hat : ∀ W, Below w1.heap.size w1 W → Calls Tryd.prog 10 #[.slice a1 len1 cap1, .int .i64 1, .int .i64 60] W fun r w' => r = .returned (.int .i64 (n : Int)) ∧ Below W.heap.size W w')
    (hF : ∀ W, Below w1.heap.size w1 W → Calls Tryd.prog 18 #[sgV q, .int .i64 (n : Int)] W fun r w' => r = .returned (ansS (R, 0)) ∧ Below W.heap.size W w')
    (f : Nat → Bool) (e : Nat) (a : Act) (w : World) (hun : f 2 = false) (hdep : ∀ d ∈ ytb_o2.after, Region.binds .any d = true → f d.on = true) (hJ : ytb_J w1 R f e w) (hFr : Fr ytb_O A f (fun j => ytb_V q R a1 len1 cap1 n j e) a)
    (K : Act → World → Prop) (hK : Hid (∀ v e' w', v = ytb_V q R a1 len1 cap1 n 2 e' → (∀ j, f j = true → ytb_V q R a1 len1 cap1 n j e' = ytb_V q R a1 len1 cap1 n j e) → ytb_J w1 R (fun j => j == 2 || f j) e' w' → K (a.put ytb_o2.dst v) w')) :
    if Region.wanted ytb_o2 (yielded ytb_O a.tmps) = true then Oper.wp Tryd.prog ytb_o2 a w K Q else K (a.put ytb_o2.dst undef) w := by
  unfold ytb_o2 at hdep hK ⊢
  obtain ⟨hB, h7, h87⟩ := hJ
  have k1 : f 1 = true := hdep { on := 1, ground := .data } (by simp) rfl
  have v76 : a.tmps.getD 76 undef = .slice a1 len1 cap1 := hFr.new 1 76 rfl k1
  replace hB := hid hB
  replace h7 := hid h7
  replace h87 := hid h87
  clear hdep hFr hq hm
  go_simp
  go_at_call 10
  refine (hat _ hB.out).mono ?_
  rintro r w' ⟨rfl, hb⟩
  replace hb := hid hb
  go_simp
  exact hK.out _ e _ rfl (fun _ _ => rfl) ⟨new_trans hB.out hb.out, fun h => ⟨(h7.out h).1.below hb.out (h7.out h).1.lt, (h7.out h).2⟩, h87.out⟩
set_option maxRecDepth 100000 in
set_option maxHeartbeats 2000000 in
theorem ytb_s3 (A : Act) (w1 : World) (Q : Exit → Act → World → Prop) (q R : Sg) (a1 : Option Addr) (len1 cap1 n : Nat) (b : Nat)
    (hq : A.tmps.getD 15 undef = .pointer (some ⟨b, 0, none⟩)) (hm : A.tmps.getD 1 undef = .slice a1 len1 cap1) (qb : Blk w1 b (sgA q))
    (hat : ∀ W, Below w1.heap.size w1 W → Calls Tryd.prog 10 #[.slice a1 len1 cap1, .int .i64 1, .int .i64 60] W fun r w' => r = .returned (.int .i64 (n : Int)) ∧ Below W.heap.size W w')
    (hF : ∀ W, Below w1.heap.size w1 W → Calls Tryd.prog 18 #[sgV q, .int .i64 (n : Int)] W fun r w' => r = .returned (ansS (R, 0)) ∧ Below W.heap.size W w')
    (f : Nat → Bool) (e : Nat) (a : Act) (w : World) (hun : f 3 = false) (hdep : ∀ d ∈ ytb_o3.after, Region.binds .any d = true → f d.on = true) (hJ : ytb_J w1 R f e w) (hFr : Fr ytb_O A f (fun j => ytb_V q R a1 len1 cap1 n j e) a)
    (K : Act → World → Prop) (hK : Hid (∀ v e' w', v = ytb_V q R a1 len1 cap1 n 3 e' → (∀ j, f j = true → ytb_V q R a1 len1 cap1 n j e' = ytb_V q R a1 len1 cap1 n j e) → ytb_J w1 R (fun j => j == 3 || f j) e' w' → K (a.put ytb_o3.dst v) w')) :
    if Region.wanted ytb_o3 (yielded ytb_O a.tmps) = true then Oper.wp Tryd.prog ytb_o3 a w K Q else K (a.put ytb_o3.dst undef) w := by
  unfold ytb_o3 at hdep hK ⊢
  obtain ⟨hB, h7, h87⟩ := hJ
  have k0 : f 0 = true := hdep { on := 0, ground := .data } (by simp) rfl
  have k2 : f 2 = true := hdep { on := 2, ground := .data } (by simp) rfl
  have v75 : a.tmps.getD 75 undef = sgV q := hFr.new 0 75 rfl k0
  have v77 : a.tmps.getD 77 undef = .int .i64 (n : Int) := hFr.new 2 77 rfl k2
  replace hB := hid hB
  replace h7 := hid h7
  replace h87 := hid h87
  clear hdep hFr hq hm
  go_simp
  go_at_call 18
  refine (hF _ hB.out).mono ?_
  rintro r w' ⟨rfl, hb⟩
  replace hb := hid hb
  go_simp
  exact hK.out _ e _ rfl (fun _ _ => rfl) ⟨new_trans hB.out hb.out, fun h => ⟨(h7.out h).1.below hb.out (h7.out h).1.lt, (h7.out h).2⟩, h87.out⟩
set_option maxRecDepth 100000 in
set_option maxHeartbeats 2000000 in
theorem ytb_s4 (A : Act) (w1 : World) (Q : Exit → Act → World → Prop) (q R : Sg) (a1 : Option Addr) (len1 cap1 n : Nat) (b : Nat)
    (hq : A.tmps.getD 15 undef = .pointer (some ⟨b, 0, none⟩)) (hm : A.tmps.getD 1 undef = .slice a1 len1 cap1) (qb : Blk w1 b (sgA q))
    (hat : ∀ W, Below w1.heap.size w1 W → Calls Tryd.prog 10 #[.slice a1 len1 cap1, .int .i64 1, .int .i64 60] W fun r w' => r = .returned (.int .i64 (n : Int)) ∧ Below W.heap.size W w')
    (hF : ∀ W, Below w1.heap.size w1 W → Calls Tryd.prog 18 #[sgV q, .int .i64 (n : Int)] W fun r w' => r = .returned (ansS (R, 0)) ∧ Below W.heap.size W w')
    (f : Nat → Bool) (e : Nat) (a : Act) (w : World) (hun : f 4 = false) (hdep : ∀ d ∈ ytb_o4.after, Region.binds .any d = true → f d.on = true) (hJ : ytb_J w1 R f e w) (hFr : Fr ytb_O A f (fun j => ytb_V q R a1 len1 cap1 n j e) a)
    (K : Act → World → Prop) (hK : Hid (∀ v e' w', v = ytb_V q R a1 len1 cap1 n 4 e' → (∀ j, f j = true → ytb_V q R a1 len1 cap1 n j e' = ytb_V q R a1 len1 cap1 n j e) → ytb_J w1 R (fun j => j == 4 || f j) e' w' → K (a.put ytb_o4.dst v) w')) :
    if Region.wanted ytb_o4 (yielded ytb_O a.tmps) = true then Oper.wp Tryd.prog ytb_o4 a w K Q else K (a.put ytb_o4.dst undef) w := by
  unfold ytb_o4 at hdep hK ⊢
  obtain ⟨hB, h7, h87⟩ := hJ
  have k3 : f 3 = true := hdep { on := 3, ground := .data } (by simp) rfl
  have v78 : a.tmps.getD 78 undef = ansS (R, 0) := hFr.new 3 78 rfl k3
  replace hB := hid hB
  replace h7 := hid h7
  replace h87 := hid h87
  clear hdep hFr hq hm
  go_simp
  exact hK.out _ e _ rfl (fun _ _ => rfl) ⟨hB.out, h7.out, h87.out⟩
set_option maxRecDepth 100000 in
set_option maxHeartbeats 2000000 in
theorem ytb_s5 (A : Act) (w1 : World) (Q : Exit → Act → World → Prop) (q R : Sg) (a1 : Option Addr) (len1 cap1 n : Nat) (b : Nat)
    (hq : A.tmps.getD 15 undef = .pointer (some ⟨b, 0, none⟩)) (hm : A.tmps.getD 1 undef = .slice a1 len1 cap1) (qb : Blk w1 b (sgA q))
    (hat : ∀ W, Below w1.heap.size w1 W → Calls Tryd.prog 10 #[.slice a1 len1 cap1, .int .i64 1, .int .i64 60] W fun r w' => r = .returned (.int .i64 (n : Int)) ∧ Below W.heap.size W w')
    (hF : ∀ W, Below w1.heap.size w1 W → Calls Tryd.prog 18 #[sgV q, .int .i64 (n : Int)] W fun r w' => r = .returned (ansS (R, 0)) ∧ Below W.heap.size W w')
    (f : Nat → Bool) (e : Nat) (a : Act) (w : World) (hun : f 5 = false) (hdep : ∀ d ∈ ytb_o5.after, Region.binds .any d = true → f d.on = true) (hJ : ytb_J w1 R f e w) (hFr : Fr ytb_O A f (fun j => ytb_V q R a1 len1 cap1 n j e) a)
    (K : Act → World → Prop) (hK : Hid (∀ v e' w', v = ytb_V q R a1 len1 cap1 n 5 e' → (∀ j, f j = true → ytb_V q R a1 len1 cap1 n j e' = ytb_V q R a1 len1 cap1 n j e) → ytb_J w1 R (fun j => j == 5 || f j) e' w' → K (a.put ytb_o5.dst v) w')) :
    if Region.wanted ytb_o5 (yielded ytb_O a.tmps) = true then Oper.wp Tryd.prog ytb_o5 a w K Q else K (a.put ytb_o5.dst undef) w := by
  unfold ytb_o5 at hdep hK ⊢
  obtain ⟨hB, h7, h87⟩ := hJ
  have k4 : f 4 = true := hdep { on := 4, ground := .data } (by simp) rfl
  have v74 : a.tmps.getD 74 undef = ansS (R, 0) := hFr.new 4 74 rfl k4
  replace hB := hid hB
  replace h7 := hid h7
  replace h87 := hid h87
  clear hdep hFr hq hm
  go_simp
  exact hK.out _ e _ rfl (fun _ _ => rfl) ⟨hB.out, h7.out, h87.out⟩
set_option maxRecDepth 100000 in
set_option maxHeartbeats 2000000 in
theorem ytb_s6 (A : Act) (w1 : World) (Q : Exit → Act → World → Prop) (q R : Sg) (a1 : Option Addr) (len1 cap1 n : Nat) (b : Nat)
    (hq : A.tmps.getD 15 undef = .pointer (some ⟨b, 0, none⟩)) (hm : A.tmps.getD 1 undef = .slice a1 len1 cap1) (qb : Blk w1 b (sgA q))
    (hat : ∀ W, Below w1.heap.size w1 W → Calls Tryd.prog 10 #[.slice a1 len1 cap1, .int .i64 1, .int .i64 60] W fun r w' => r = .returned (.int .i64 (n : Int)) ∧ Below W.heap.size W w')
    (hF : ∀ W, Below w1.heap.size w1 W → Calls Tryd.prog 18 #[sgV q, .int .i64 (n : Int)] W fun r w' => r = .returned (ansS (R, 0)) ∧ Below W.heap.size W w')
    (f : Nat → Bool) (e : Nat) (a : Act) (w : World) (hun : f 6 = false) (hdep : ∀ d ∈ ytb_o6.after, Region.binds .any d = true → f d.on = true) (hJ : ytb_J w1 R f e w) (hFr : Fr ytb_O A f (fun j => ytb_V q R a1 len1 cap1 n j e) a)
    (K : Act → World → Prop) (hK : Hid (∀ v e' w', v = ytb_V q R a1 len1 cap1 n 6 e' → (∀ j, f j = true → ytb_V q R a1 len1 cap1 n j e' = ytb_V q R a1 len1 cap1 n j e) → ytb_J w1 R (fun j => j == 6 || f j) e' w' → K (a.put ytb_o6.dst v) w')) :
    if Region.wanted ytb_o6 (yielded ytb_O a.tmps) = true then Oper.wp Tryd.prog ytb_o6 a w K Q else K (a.put ytb_o6.dst undef) w := by
  unfold ytb_o6 at hdep hK ⊢
  obtain ⟨hB, h7, h87⟩ := hJ
  have k4 : f 4 = true := hdep { on := 4, ground := .data } (by simp) rfl
  have v74 : a.tmps.getD 74 undef = ansS (R, 0) := hFr.new 4 74 rfl k4
  replace hB := hid hB
  replace h7 := hid h7
  replace h87 := hid h87
  clear hdep hFr hq hm
  go_simp
  exact hK.out _ e _ rfl (fun _ _ => rfl) ⟨hB.out, h7.out, h87.out⟩
set_option maxRecDepth 100000 in
set_option maxHeartbeats 2000000 in
theorem ytb_s7 (A : Act) (w1 : World) (Q : Exit → Act → World → Prop) (q R : Sg) (a1 : Option Addr) (len1 cap1 n : Nat) (b : Nat)
    (hq : A.tmps.getD 15 undef = .pointer (some ⟨b, 0, none⟩)) (hm : A.tmps.getD 1 undef = .slice a1 len1 cap1) (qb : Blk w1 b (sgA q))
    (hat : ∀ W, Below w1.heap.size w1 W → Calls Tryd.prog 10 #[.slice a1 len1 cap1, .int .i64 1, .int .i64 60] W fun r w' => r = .returned (.int .i64 (n : Int)) ∧ Below W.heap.size W w')
    (hF : ∀ W, Below w1.heap.size w1 W → Calls Tryd.prog 18 #[sgV q, .int .i64 (n : Int)] W fun r w' => r = .returned (ansS (R, 0)) ∧ Below W.heap.size W w')
    (f : Nat → Bool) (e : Nat) (a : Act) (w : World) (hun : f 7 = false) (hdep : ∀ d ∈ ytb_o7.after, Region.binds .any d = true → f d.on = true) (hJ : ytb_J w1 R f e w) (hFr : Fr ytb_O A f (fun j => ytb_V q R a1 len1 cap1 n j e) a)
    (K : Act → World → Prop) (hK : Hid (∀ v e' w', v = ytb_V q R a1 len1 cap1 n 7 e' → (∀ j, f j = true → ytb_V q R a1 len1 cap1 n j e' = ytb_V q R a1 len1 cap1 n j e) → ytb_J w1 R (fun j => j == 7 || f j) e' w' → K (a.put ytb_o7.dst v) w')) :
    if Region.wanted ytb_o7 (yielded ytb_O a.tmps) = true then Oper.wp Tryd.prog ytb_o7 a w K Q else K (a.put ytb_o7.dst undef) w := by
  unfold ytb_o7 at hdep hK ⊢
  obtain ⟨hB, h7, h87⟩ := hJ
  have z8 : f 8 = false := by
    cases h : f 8
    · rfl
    · have := h87 h
      rw [hun] at this
      cases this
  have hn := hid (Blk.new w (sgA zeS) 27)
  have hsz := hid hB.size
  replace hB := hid hB
  replace h7 := hid h7
  replace h87 := hid h87
  clear hdep hFr hq hm
  go_simp
  exact hK.out _ w.heap.size _ rfl (ytb_keep q R a1 len1 cap1 n e w.heap.size hun) ⟨hB.out.alloc hsz.out _, fun _ => ⟨(by show Blk _ _ (bif f 8 then _ else sgA zeS); rw [z8]; exact hn.out), hsz.out⟩, fun _ => rfl⟩
set_option maxRecDepth 100000 in
set_option maxHeartbeats 2000000 in
theorem ytb_s8 (A : Act) (w1 : World) (Q : Exit → Act → World → Prop) (q R : Sg) (a1 : Option Addr) (len1 cap1 n : Nat) (b : Nat)
    (hq : A.tmps.getD 15 undef = .pointer (some ⟨b, 0, none⟩)) (hm : A.tmps.getD 1 undef = .slice a1 len1 cap1) (qb : Blk w1 b (sgA q))
    (hat : ∀ W, Below w1.heap.size w1 W → Calls Tryd.prog 10 #[.slice a1 len1 cap1, .int .i64 1, .int .i64 60] W fun r w' => r = .returned (.int .i64 (n : Int)) ∧ Below W.heap.size W w')
    (hF : ∀ W, Below w1.heap.size w1 W → Calls Tryd.prog 18 #[sgV q, .int .i64 (n : Int)] W fun r w' => r = .returned (ansS (R, 0)) ∧ Below W.heap.size W w')
    (f : Nat → Bool) (e : Nat) (a : Act) (w : World) (hun : f 8 = false) (hdep : ∀ d ∈ ytb_o8.after, Region.binds .any d = true → f d.on = true) (hJ : ytb_J w1 R f e w) (hFr : Fr ytb_O A f (fun j => ytb_V q R a1 len1 cap1 n j e) a)
    (K : Act → World → Prop) (hK : Hid (∀ v e' w', v = ytb_V q R a1 len1 cap1 n 8 e' → (∀ j, f j = true → ytb_V q R a1 len1 cap1 n j e' = ytb_V q R a1 len1 cap1 n j e) → ytb_J w1 R (fun j => j == 8 || f j) e' w' → K (a.put ytb_o8.dst v) w')) :
    if Region.wanted ytb_o8 (yielded ytb_O a.tmps) = true then Oper.wp Tryd.prog ytb_o8 a w K Q else K (a.put ytb_o8.dst undef) w := by
  unfold ytb_o8 at hdep hK ⊢
  obtain ⟨hB, h7, h87⟩ := hJ
  have k7 : f 7 = true := hdep { on := 7, ground := .data } (by simp) rfl
  have k5 : f 5 = true := hdep { on := 5, ground := .data } (by simp) rfl
  have v18 : a.tmps.getD 18 undef = .pointer (some ⟨e, 0, none⟩) := hFr.new 7 18 rfl k7
  have v79 : a.tmps.getD 79 undef = sgV R := hFr.new 5 79 rfl k5
  have h9 := h7 k7
  rw [hun] at h9
  have h10 : Blk w e (sgA zeS) := h9.1
  rw [if_pos (by rfl)]
  refine wp_store_mid 27 _ _ rfl e 0 (sgA R) v18 v79 (sg_there h10 _) (sg_size _) (sg_one _) ?_
  exact hK.out (ytb_V q R a1 len1 cap1 n 8 e) e _ rfl (fun _ _ => rfl) ⟨lay_below _ _ _ h9.2 hB, fun _ => ⟨sg_laid h10 R, h9.2⟩, fun _ => k7⟩
set_option maxRecDepth 100000 in
set_option maxHeartbeats 2000000 in
theorem ytb_s9 (A : Act) (w1 : World) (Q : Exit → Act → World → Prop) (q R : Sg) (a1 : Option Addr) (len1 cap1 n : Nat) (b : Nat)
    (hq : A.tmps.getD 15 undef = .pointer (some ⟨b, 0, none⟩)) (hm : A.tmps.getD 1 undef = .slice a1 len1 cap1) (qb : Blk w1 b (sgA q))
    (hat : ∀ W, Below w1.heap.size w1 W → Calls Tryd.prog 10 #[.slice a1 len1 cap1, .int .i64 1, .int .i64 60] W fun r w' => r = .returned (.int .i64 (n : Int)) ∧ Below W.heap.size W w')
    (hF : ∀ W, Below w1.heap.size w1 W → Calls Tryd.prog 18 #[sgV q, .int .i64 (n : Int)] W fun r w' => r = .returned (ansS (R, 0)) ∧ Below W.heap.size W w')
    (f : Nat → Bool) (e : Nat) (a : Act) (w : World) (hun : f 9 = false) (hdep : ∀ d ∈ ytb_o9.after, Region.binds .any d = true → f d.on = true) (hJ : ytb_J w1 R f e w) (hFr : Fr ytb_O A f (fun j => ytb_V q R a1 len1 cap1 n j e) a)
    (K : Act → World → Prop) (hK : Hid (∀ v e' w', v = ytb_V q R a1 len1 cap1 n 9 e' → (∀ j, f j = true → ytb_V q R a1 len1 cap1 n j e' = ytb_V q R a1 len1 cap1 n j e) → ytb_J w1 R (fun j => j == 9 || f j) e' w' → K (a.put ytb_o9.dst v) w')) :
    if Region.wanted ytb_o9 (yielded ytb_O a.tmps) = true then Oper.wp Tryd.prog ytb_o9 a w K Q else K (a.put ytb_o9.dst undef) w := by
  unfold ytb_o9 at hdep hK ⊢
  obtain ⟨hB, h7, h87⟩ := hJ
  have k6 : f 6 = true := hdep { on := 6, ground := .data } (by simp) rfl
  have v80 : a.tmps.getD 80 undef = .int .i64 0 := hFr.new 6 80 rfl k6
  replace hB := hid hB
  replace h7 := hid h7
  replace h87 := hid h87
  clear hdep hFr hq hm
  go_simp
  exact hK.out _ e _ rfl (fun _ _ => rfl) ⟨hB.out, h7.out, h87.out⟩
set_option maxRecDepth 100000 in
set_option maxHeartbeats 4000000 in
theorem ytb_reg (A : Act) (w1 : World) (Q : Exit → Act → World → Prop) (q R : Sg) (a1 : Option Addr) (len1 cap1 n : Nat) (b : Nat)
    (hq : A.tmps.getD 15 undef = .pointer (some ⟨b, 0, none⟩)) (hm : A.tmps.getD 1 undef = .slice a1 len1 cap1) (qb : Blk w1 b (sgA q))
    (hat : ∀ W, Below w1.heap.size w1 W → Calls Tryd.prog 10 #[.slice a1 len1 cap1, .int .i64 1, .int .i64 60] W fun r w' => r = .returned (.int .i64 (n : Int)) ∧ Below W.heap.size W w')
    (hF : ∀ W, Below w1.heap.size w1 W → Calls Tryd.prog 18 #[sgV q, .int .i64 (n : Int)] W fun r w' => r = .returned (ansS (R, 0)) ∧ Below W.heap.size W w') (hN : 81 ≤ A.tmps.size)
    (h : ∀ (w : World) (e : Nat), Below w1.heap.size w1 w → Blk w e (sgA R) → Q .normal (putsA A [(75, sgV q), (76, .slice a1 len1 cap1), (77, .int .i64 (n : Int)), (78, ansS (R, 0)), (74, ansS (R, 0)), (79, sgV R), (80, .int .i64 0), (18, .pointer (some ⟨e, 0, none⟩)), (19, .int .i64 0)]) w) :
    (Code.region 11 #[({ dst := some 75, op := Op.load 27 (Operand.tmp 15), type := 27, pos := "laws.go:498", after := #[], guard := none } : Oper), ({ dst := some 76, op := Op.move (Operand.tmp 1), type := 22, pos := "laws.go:498", after := #[], guard := none } : Oper), ({ dst := some 77, op := Op.call { callee := Callee.value (Operand.func 10), args := #[Operand.tmp 76, Operand.const (Value.int IntKind.i64 1), Operand.const (Value.int IntKind.i64 60)], argTypes := #[22, 3, 3] }, type := 3, pos := "laws.go:498", after := #[{ on := 1, ground := Ground.data }], guard := none } : Oper), ({ dst := some 78, op := Op.call { callee := Callee.value (Operand.func 18), args := #[Operand.tmp 75, Operand.tmp 77], argTypes := #[27, 3] }, type := 30, pos := "laws.go:498", after := #[{ on := 0, ground := Ground.data }, { on := 2, ground := Ground.data }, { on := 2, ground := Ground.chain }], guard := none } : Oper), ({ dst := some 74, op := Op.move (Operand.tmp 78), type := 30, pos := "laws.go:498", after := #[{ on := 3, ground := Ground.data }], guard := none } : Oper), ({ dst := some 79, op := Op.extract (Operand.tmp 74) 0, type := 27, pos := "laws.go:498", after := #[{ on := 4, ground := Ground.data }], guard := none } : Oper), ({ dst := some 80, op := Op.extract (Operand.tmp 74) 1, type := 3, pos := "laws.go:498", after := #[{ on := 4, ground := Ground.data }, { on := 8, ground := Ground.gcOnly Departure.lateStores }], guard := none } : Oper), ({ dst := some 18, op := Op.alloc 27, type := 0, pos := "laws.go:498", after := #[], guard := none } : Oper), ({ dst := none, op := Op.store 27 (Operand.tmp 18) (Operand.tmp 79), type := 0, pos := "laws.go:498", after := #[{ on := 7, ground := Ground.data }, { on := 5, ground := Ground.data }, { on := 3, ground := Ground.chain }, { on := 0, ground := Ground.phase }, { on := 1, ground := Ground.phase }, { on := 2, ground := Ground.phase }, { on := 3, ground := Ground.phase }, { on := 4, ground := Ground.phase }, { on := 5, ground := Ground.phase }, { on := 6, ground := Ground.textOnly Departure.lateStores }, { on := 7, ground := Ground.phase }], guard := none } : Oper), ({ dst := some 19, op := Op.assign (Operand.tmp 80), type := 3, pos := "laws.go:498", after := #[{ on := 6, ground := Ground.data }, { on := 8, ground := Ground.chain }, { on := 0, ground := Ground.phase }, { on := 1, ground := Ground.phase }, { on := 2, ground := Ground.phase }, { on := 3, ground := Ground.phase }, { on := 4, ground := Ground.phase }, { on := 5, ground := Ground.phase }, { on := 6, ground := Ground.phase }, { on := 7, ground := Ground.phase }, { on := 8, ground := Ground.phase }], guard := none } : Oper)] true).wp Tryd.prog Q A w1 := by
  show (Code.region 11 ytb_O true).wp Tryd.prog Q A w1
  refine wp_region_slots (E := Nat) (ytb_V q R a1 len1 cap1 n) (ytb_J w1 R) (by kernel_rfl) (by kernel_rfl) (by kernel_rfl) (fun i s hi => ?_) ?_ 0 ⟨(Below.refl _ _).drew, fun h => (by cases h), fun h => (by cases h)⟩ ?_
  · cases hc : ([75, 76, 77, 78, 74, 79, 80, 18, 19] : List Nat).contains s
    · exact absurd hi (ytb_no hc i)
    · have : s ∈ ([75, 76, 77, 78, 74, 79, 80, 18, 19] : List Nat) := by simpa using hc
      simp only [List.mem_cons, List.not_mem_nil, or_false] at this
      omega
  · intro f e a w i o hi ho hun hdep hJ hFr K hK
    have hi8 : i < 10 := hi
    rcases (by omega : i = 0 ∨ i = 1 ∨ i = 2 ∨ i = 3 ∨ i = 4 ∨ i = 5 ∨ i = 6 ∨ i = 7 ∨ i = 8 ∨ i = 9) with rfl | rfl | rfl | rfl | rfl | rfl | rfl | rfl | rfl | rfl
    · obtain rfl := Option.some.inj ho
      exact ytb_s0 A w1 Q q R a1 len1 cap1 n b hq hm qb hat hF f e a w hun hdep hJ hFr K hK
    · obtain rfl := Option.some.inj ho
      exact ytb_s1 A w1 Q q R a1 len1 cap1 n b hq hm qb hat hF f e a w hun hdep hJ hFr K hK
    · obtain rfl := Option.some.inj ho
      exact ytb_s2 A w1 Q q R a1 len1 cap1 n b hq hm qb hat hF f e a w hun hdep hJ hFr K hK
    · obtain rfl := Option.some.inj ho
      exact ytb_s3 A w1 Q q R a1 len1 cap1 n b hq hm qb hat hF f e a w hun hdep hJ hFr K hK
    · obtain rfl := Option.some.inj ho
      exact ytb_s4 A w1 Q q R a1 len1 cap1 n b hq hm qb hat hF f e a w hun hdep hJ hFr K hK
    · obtain rfl := Option.some.inj ho
      exact ytb_s5 A w1 Q q R a1 len1 cap1 n b hq hm qb hat hF f e a w hun hdep hJ hFr K hK
    · obtain rfl := Option.some.inj ho
      exact ytb_s6 A w1 Q q R a1 len1 cap1 n b hq hm qb hat hF f e a w hun hdep hJ hFr K hK
    · obtain rfl := Option.some.inj ho
      exact ytb_s7 A w1 Q q R a1 len1 cap1 n b hq hm qb hat hF f e a w hun hdep hJ hFr K hK
    · obtain rfl := Option.some.inj ho
      exact ytb_s8 A w1 Q q R a1 len1 cap1 n b hq hm qb hat hF f e a w hun hdep hJ hFr K hK
    · obtain rfl := Option.some.inj ho
      exact ytb_s9 A w1 Q q R a1 len1 cap1 n b hq hm qb hat hF f e a w hun hdep hJ hFr K hK
  · intro f e a w hall hJ hFr
    obtain ⟨hB, h7, _⟩ := hJ
    have h9 := h7 (hall 7 (by decide))
    rw [hall 8 (by decide)] at h9
    have := h w e hB h9.1
    rw [hFr.eq [(75, sgV q), (76, .slice a1 len1 cap1), (77, .int .i64 (n : Int)), (78, ansS (R, 0)), (74, ansS (R, 0)), (79, sgV R), (80, .int .i64 0), (18, .pointer (some ⟨e, 0, none⟩)), (19, .int .i64 0)] (fun s hs => ?_) (fun i s hi => ?_)]
    · exact this
    · have hne : ∀ k ∈ ([75, 76, 77, 78, 74, 79, 80, 18, 19] : List Nat), k ≠ s := by
        intro k hk e2
        subst e2
        simp only [List.mem_cons, List.not_mem_nil, or_false] at hk
        rcases hk with rfl | rfl | rfl | rfl | rfl | rfl | rfl | rfl | rfl
        · exact hs 0 rfl
        · exact hs 1 rfl
        · exact hs 2 rfl
        · exact hs 3 rfl
        · exact hs 4 rfl
        · exact hs 5 rfl
        · exact hs 6 rfl
        · exact hs 7 rfl
        · exact hs 9 rfl
      simp only [lookA]
      simp [hne]
    · have hl : i < 10 := by
        rcases Nat.lt_or_ge i 10 with h1 | h1
        · exact h1
        · unfold dstAt at hi
          rw [Array.getElem?_eq_none (by exact h1)] at hi
          cases hi
      refine ⟨hall i hl, ?_⟩
      rcases (by omega : i = 0 ∨ i = 1 ∨ i = 2 ∨ i = 3 ∨ i = 4 ∨ i = 5 ∨ i = 6 ∨ i = 7 ∨ i = 8 ∨ i = 9) with rfl | rfl | rfl | rfl | rfl | rfl | rfl | rfl | rfl | rfl
      all_goals first
        | (cases hi; rfl)
        | cases hi
end Go.Proofs.YtjdgfbaioafjcaaDoor
