/- SameMachine's law: its drawn statements. -/
import Derived.Test.YtifcdojaocndhaaDoorWhds
import Derived.Test.YtifcdojaocndhaaDoorS45
import Derived.Test.YtifcdojaocndhaaDoorWehs
import Derived.Test.YtifcdojaocndhaaDoorS10
namespace Go.Proofs.YtifcdojaocndhaaDoor
open Go.ChangeShapes Go.WideShapes Go.ChangeAt Go.RowKit
set_option linter.unusedVariables false
set_option linter.unusedSimpArgs false

def w4s_V (bA bB : Nat) (x y : Mc) (vr vm vd ve zr zm zd ze : Value) (q : Bool) : Nat → (Value × Value) → Value := fun i e => match i with
  | 0 => (.agg (mcA x vr vm vd ve))
  | 1 => e.1
  | 2 => (.agg (mcA y zr zm zd ze))
  | 3 => e.2
  | 4 => .bool q
  | 5 => .bool q
  | _ => undef
def w4s_J (w1 : World) (bA bB : Nat) (x y : Mc) (vr vm vd ve zr zm zd ze : Value) (q : Bool) (f : Nat → Bool) (e : (Value × Value)) (w : World) : Prop :=
  Below w1.heap.size w1 w ∧ (f 1 = true → MacB w e.1 x) ∧ (f 3 = true → MacB w e.2 y)
def w4s_o0 : Oper := ({ dst := some 20, op := Op.load 58 (Operand.tmp 2), type := 58, pos := "exact.go:3397", after := #[], guard := none } : Oper)
def w4s_o1 : Oper := ({ dst := some 21, op := Op.call { callee := Callee.value (Operand.func 19), args := #[Operand.tmp 20], argTypes := #[58] }, type := 41, pos := "exact.go:3397", after := #[{ on := 0, ground := Ground.data }], guard := none } : Oper)
def w4s_o2 : Oper := ({ dst := some 22, op := Op.load 58 (Operand.tmp 3), type := 58, pos := "exact.go:3397", after := #[], guard := none } : Oper)
def w4s_o3 : Oper := ({ dst := some 23, op := Op.call { callee := Callee.value (Operand.func 19), args := #[Operand.tmp 22], argTypes := #[58] }, type := 41, pos := "exact.go:3397", after := #[{ on := 2, ground := Ground.data }, { on := 1, ground := Ground.chain }], guard := none } : Oper)
def w4s_o4 : Oper := ({ dst := some 24, op := Op.call { callee := Callee.value (Operand.func 25), args := #[Operand.tmp 21, Operand.tmp 23], argTypes := #[41, 41] }, type := 4, pos := "exact.go:3397", after := #[{ on := 1, ground := Ground.data }, { on := 3, ground := Ground.data }, { on := 3, ground := Ground.chain }], guard := none } : Oper)
def w4s_o5 : Oper := ({ dst := some 6, op := Op.assign (Operand.tmp 24), type := 4, pos := "exact.go:3397", after := #[{ on := 4, ground := Ground.data }, { on := 4, ground := Ground.chain }, { on := 0, ground := Ground.phase }, { on := 1, ground := Ground.phase }, { on := 2, ground := Ground.phase }, { on := 3, ground := Ground.phase }, { on := 4, ground := Ground.phase }], guard := none } : Oper)
def w4s_O : Array Oper := #[w4s_o0, w4s_o1, w4s_o2, w4s_o3, w4s_o4, w4s_o5]
theorem w4s_no {s : Nat} (h : ([20, 21, 22, 23, 24, 6] : List Nat).contains s = false) : ∀ i, dstAt w4s_O i ≠ some s := by
  intro i hi
  have hl : i < 6 := by
    rcases Nat.lt_or_ge i 6 with h1 | h1
    · exact h1
    · unfold dstAt at hi
      rw [Array.getElem?_eq_none (by exact h1)] at hi
      cases hi
  rcases (by omega : i = 0 ∨ i = 1 ∨ i = 2 ∨ i = 3 ∨ i = 4 ∨ i = 5) with rfl | rfl | rfl | rfl | rfl | rfl
  all_goals first
    | (cases hi; simp at h)
    | cases hi
theorem w4s_keep1 (bA bB : Nat) (x y : Mc) (vr vm vd ve zr zm zd ze : Value) (q : Bool) {f : Nat → Bool} (e : Value × Value) (u : Value) (hn : f 1 = false) : ∀ j, f j = true → w4s_V bA bB x y vr vm vd ve zr zm zd ze q j (u, e.2) = w4s_V bA bB x y vr vm vd ve zr zm zd ze q j e := by
  intro j hj
  unfold w4s_V
  split
  · rfl
  · rw [hn] at hj; cases hj
  · rfl
  · rfl
  · rfl
  · rfl
  · rfl
theorem w4s_keep3 (bA bB : Nat) (x y : Mc) (vr vm vd ve zr zm zd ze : Value) (q : Bool) {f : Nat → Bool} (e : Value × Value) (u : Value) (hn : f 3 = false) : ∀ j, f j = true → w4s_V bA bB x y vr vm vd ve zr zm zd ze q j (e.1, u) = w4s_V bA bB x y vr vm vd ve zr zm zd ze q j e := by
  intro j hj
  unfold w4s_V
  split
  · rfl
  · rfl
  · rfl
  · rw [hn] at hj; cases hj
  · rfl
  · rfl
  · rfl
set_option maxRecDepth 100000 in
set_option maxHeartbeats 2000000 in
theorem w4s_s0 (A : Act) (w1 : World) (Q : Exit → Act → World → Prop) (bA bB : Nat) (x y : Mc) (vr vm vd ve zr zm zd ze : Value) (q : Bool) 
    (ha : A.tmps.getD 2 undef = .pointer (some ⟨bA, 0, none⟩)) (hb : A.tmps.getD 3 undef = .pointer (some ⟨bB, 0, none⟩)) (qA : Blk w1 bA (mcA x vr vm vd ve)) (qB : Blk w1 bB (mcA y zr zm zd ze)) (hT : (∀ W, Below w1.heap.size w1 W → Calls Tryd.prog 19 #[.agg (mcA x vr vm vd ve)] W fun r w' => ∃ v, r = .returned v ∧ MacB w' v x ∧ Below W.heap.size W w')) (hU : (∀ W, Below w1.heap.size w1 W → Calls Tryd.prog 19 #[.agg (mcA y zr zm zd ze)] W fun r w' => ∃ v, r = .returned v ∧ MacB w' v y ∧ Below W.heap.size W w')) (hE : ∀ W v u, Below w1.heap.size w1 W → MacB W v x → MacB W u y → Calls Tryd.prog 25 #[v, u] W fun r w' => r = .returned (.bool q) ∧ Below W.heap.size W w')
    (f : Nat → Bool) (e : (Value × Value)) (a : Act) (w : World) (hun : f 0 = false) (hdep : ∀ d ∈ w4s_o0.after, Region.binds .any d = true → f d.on = true) (hJ : w4s_J w1 bA bB x y vr vm vd ve zr zm zd ze q f e w) (hFr : Fr w4s_O A f (fun j => w4s_V bA bB x y vr vm vd ve zr zm zd ze q j e) a)
    (K : Act → World → Prop) (hK : Hid (∀ v e' w', v = w4s_V bA bB x y vr vm vd ve zr zm zd ze q 0 e' → (∀ j, f j = true → w4s_V bA bB x y vr vm vd ve zr zm zd ze q j e' = w4s_V bA bB x y vr vm vd ve zr zm zd ze q j e) → w4s_J w1 bA bB x y vr vm vd ve zr zm zd ze q (fun j => j == 0 || f j) e' w' → K (a.put w4s_o0.dst v) w')) :
    if Region.wanted w4s_o0 (yielded w4s_O a.tmps) = true then Oper.wp Tryd.prog w4s_o0 a w K Q else K (a.put w4s_o0.dst undef) w := by
  unfold w4s_o0 at hdep hK ⊢
  have hK9 := hK
  obtain ⟨hB, j1, j3⟩ := hJ
  have v2 := (hFr.old 2 (w4s_no (by decide))).trans ha
  have x0 := mc_all (qA.below hB qA.lt)
  rw [if_pos (show Region.wanted _ _ = true from rfl)]
  refine wp_load_mid 58 _ rfl bA 0 v2 (mcA x vr vm vd ve).toList _ x0 Tryd.underlying58 rfl (szLMc _ _ _ _ _) ?_
  exact hK9.out _ e _ rfl (fun _ _ => rfl) ⟨hB, j1, j3⟩
set_option maxRecDepth 100000 in
set_option maxHeartbeats 2000000 in
theorem w4s_s1 (A : Act) (w1 : World) (Q : Exit → Act → World → Prop) (bA bB : Nat) (x y : Mc) (vr vm vd ve zr zm zd ze : Value) (q : Bool) 
    (ha : A.tmps.getD 2 undef = .pointer (some ⟨bA, 0, none⟩)) (hb : A.tmps.getD 3 undef = .pointer (some ⟨bB, 0, none⟩)) (qA : Blk w1 bA (mcA x vr vm vd ve)) (qB : Blk w1 bB (mcA y zr zm zd ze)) (hT : (∀ W, Below w1.heap.size w1 W → Calls Tryd.prog 19 #[.agg (mcA x vr vm vd ve)] W fun r w' => ∃ v, r = .returned v ∧ MacB w' v x ∧ Below W.heap.size W w')) (hU : (∀ W, Below w1.heap.size w1 W → Calls Tryd.prog 19 #[.agg (mcA y zr zm zd ze)] W fun r w' => ∃ v, r = .returned v ∧ MacB w' v y ∧ Below W.heap.size W w')) (hE : ∀ W v u, Below w1.heap.size w1 W → MacB W v x → MacB W u y → Calls Tryd.prog 25 #[v, u] W fun r w' => r = .returned (.bool q) ∧ Below W.heap.size W w')
    (f : Nat → Bool) (e : (Value × Value)) (a : Act) (w : World) (hun : f 1 = false) (hdep : ∀ d ∈ w4s_o1.after, Region.binds .any d = true → f d.on = true) (hJ : w4s_J w1 bA bB x y vr vm vd ve zr zm zd ze q f e w) (hFr : Fr w4s_O A f (fun j => w4s_V bA bB x y vr vm vd ve zr zm zd ze q j e) a)
    (K : Act → World → Prop) (hK : Hid (∀ v e' w', v = w4s_V bA bB x y vr vm vd ve zr zm zd ze q 1 e' → (∀ j, f j = true → w4s_V bA bB x y vr vm vd ve zr zm zd ze q j e' = w4s_V bA bB x y vr vm vd ve zr zm zd ze q j e) → w4s_J w1 bA bB x y vr vm vd ve zr zm zd ze q (fun j => j == 1 || f j) e' w' → K (a.put w4s_o1.dst v) w')) :
    if Region.wanted w4s_o1 (yielded w4s_O a.tmps) = true then Oper.wp Tryd.prog w4s_o1 a w K Q else K (a.put w4s_o1.dst undef) w := by
  unfold w4s_o1 at hdep hK ⊢
  have hK9 := hK
  obtain ⟨hB, j1, j3⟩ := hJ
  have k0 : f 0 = true := hdep { on := 0, ground := .data } (by simp) rfl
  have v20 : a.tmps.getD 20 undef = (.agg (mcA x vr vm vd ve)) := hFr.new 0 20 rfl k0
  replace hB := hid hB
  replace j1 := hid j1
  replace j3 := hid j3
  replace hT := hid hT
  replace hU := hid hU
  replace hE := hid hE
  replace qA := hid qA
  replace qB := hid qB
  clear hdep hFr ha hb
  go_simp
  go_at_call 19
  refine (hT.out w hB.out).mono ?_
  rintro r w' ⟨u, rfl, hm', hb'⟩
  replace hm' := hid hm'
  replace hb' := hid hb'
  go_simp
  exact hK9.out _ (u, e.2) _ rfl (w4s_keep1 bA bB x y vr vm vd ve zr zm zd ze q e u hun) ⟨new_trans hB.out hb'.out, fun _ => hm'.out, fun h => (j3.out h).below hb'.out⟩
set_option maxRecDepth 100000 in
set_option maxHeartbeats 2000000 in
theorem w4s_s2 (A : Act) (w1 : World) (Q : Exit → Act → World → Prop) (bA bB : Nat) (x y : Mc) (vr vm vd ve zr zm zd ze : Value) (q : Bool) 
    (ha : A.tmps.getD 2 undef = .pointer (some ⟨bA, 0, none⟩)) (hb : A.tmps.getD 3 undef = .pointer (some ⟨bB, 0, none⟩)) (qA : Blk w1 bA (mcA x vr vm vd ve)) (qB : Blk w1 bB (mcA y zr zm zd ze)) (hT : (∀ W, Below w1.heap.size w1 W → Calls Tryd.prog 19 #[.agg (mcA x vr vm vd ve)] W fun r w' => ∃ v, r = .returned v ∧ MacB w' v x ∧ Below W.heap.size W w')) (hU : (∀ W, Below w1.heap.size w1 W → Calls Tryd.prog 19 #[.agg (mcA y zr zm zd ze)] W fun r w' => ∃ v, r = .returned v ∧ MacB w' v y ∧ Below W.heap.size W w')) (hE : ∀ W v u, Below w1.heap.size w1 W → MacB W v x → MacB W u y → Calls Tryd.prog 25 #[v, u] W fun r w' => r = .returned (.bool q) ∧ Below W.heap.size W w')
    (f : Nat → Bool) (e : (Value × Value)) (a : Act) (w : World) (hun : f 2 = false) (hdep : ∀ d ∈ w4s_o2.after, Region.binds .any d = true → f d.on = true) (hJ : w4s_J w1 bA bB x y vr vm vd ve zr zm zd ze q f e w) (hFr : Fr w4s_O A f (fun j => w4s_V bA bB x y vr vm vd ve zr zm zd ze q j e) a)
    (K : Act → World → Prop) (hK : Hid (∀ v e' w', v = w4s_V bA bB x y vr vm vd ve zr zm zd ze q 2 e' → (∀ j, f j = true → w4s_V bA bB x y vr vm vd ve zr zm zd ze q j e' = w4s_V bA bB x y vr vm vd ve zr zm zd ze q j e) → w4s_J w1 bA bB x y vr vm vd ve zr zm zd ze q (fun j => j == 2 || f j) e' w' → K (a.put w4s_o2.dst v) w')) :
    if Region.wanted w4s_o2 (yielded w4s_O a.tmps) = true then Oper.wp Tryd.prog w4s_o2 a w K Q else K (a.put w4s_o2.dst undef) w := by
  unfold w4s_o2 at hdep hK ⊢
  have hK9 := hK
  obtain ⟨hB, j1, j3⟩ := hJ
  have v3 := (hFr.old 3 (w4s_no (by decide))).trans hb
  have x0 := mc_all (qB.below hB qB.lt)
  rw [if_pos (show Region.wanted _ _ = true from rfl)]
  refine wp_load_mid 58 _ rfl bB 0 v3 (mcA y zr zm zd ze).toList _ x0 Tryd.underlying58 rfl (szLMc _ _ _ _ _) ?_
  exact hK9.out _ e _ rfl (fun _ _ => rfl) ⟨hB, j1, j3⟩
set_option maxRecDepth 100000 in
set_option maxHeartbeats 2000000 in
theorem w4s_s3 (A : Act) (w1 : World) (Q : Exit → Act → World → Prop) (bA bB : Nat) (x y : Mc) (vr vm vd ve zr zm zd ze : Value) (q : Bool) 
    (ha : A.tmps.getD 2 undef = .pointer (some ⟨bA, 0, none⟩)) (hb : A.tmps.getD 3 undef = .pointer (some ⟨bB, 0, none⟩)) (qA : Blk w1 bA (mcA x vr vm vd ve)) (qB : Blk w1 bB (mcA y zr zm zd ze)) (hT : (∀ W, Below w1.heap.size w1 W → Calls Tryd.prog 19 #[.agg (mcA x vr vm vd ve)] W fun r w' => ∃ v, r = .returned v ∧ MacB w' v x ∧ Below W.heap.size W w')) (hU : (∀ W, Below w1.heap.size w1 W → Calls Tryd.prog 19 #[.agg (mcA y zr zm zd ze)] W fun r w' => ∃ v, r = .returned v ∧ MacB w' v y ∧ Below W.heap.size W w')) (hE : ∀ W v u, Below w1.heap.size w1 W → MacB W v x → MacB W u y → Calls Tryd.prog 25 #[v, u] W fun r w' => r = .returned (.bool q) ∧ Below W.heap.size W w')
    (f : Nat → Bool) (e : (Value × Value)) (a : Act) (w : World) (hun : f 3 = false) (hdep : ∀ d ∈ w4s_o3.after, Region.binds .any d = true → f d.on = true) (hJ : w4s_J w1 bA bB x y vr vm vd ve zr zm zd ze q f e w) (hFr : Fr w4s_O A f (fun j => w4s_V bA bB x y vr vm vd ve zr zm zd ze q j e) a)
    (K : Act → World → Prop) (hK : Hid (∀ v e' w', v = w4s_V bA bB x y vr vm vd ve zr zm zd ze q 3 e' → (∀ j, f j = true → w4s_V bA bB x y vr vm vd ve zr zm zd ze q j e' = w4s_V bA bB x y vr vm vd ve zr zm zd ze q j e) → w4s_J w1 bA bB x y vr vm vd ve zr zm zd ze q (fun j => j == 3 || f j) e' w' → K (a.put w4s_o3.dst v) w')) :
    if Region.wanted w4s_o3 (yielded w4s_O a.tmps) = true then Oper.wp Tryd.prog w4s_o3 a w K Q else K (a.put w4s_o3.dst undef) w := by
  unfold w4s_o3 at hdep hK ⊢
  have hK9 := hK
  obtain ⟨hB, j1, j3⟩ := hJ
  have k2 : f 2 = true := hdep { on := 2, ground := .data } (by simp) rfl
  have v22 : a.tmps.getD 22 undef = (.agg (mcA y zr zm zd ze)) := hFr.new 2 22 rfl k2
  replace hB := hid hB
  replace j1 := hid j1
  replace j3 := hid j3
  replace hT := hid hT
  replace hU := hid hU
  replace hE := hid hE
  replace qA := hid qA
  replace qB := hid qB
  clear hdep hFr ha hb
  go_simp
  go_at_call 19
  refine (hU.out w hB.out).mono ?_
  rintro r w' ⟨u, rfl, hm', hb'⟩
  replace hm' := hid hm'
  replace hb' := hid hb'
  go_simp
  exact hK9.out _ (e.1, u) _ rfl (w4s_keep3 bA bB x y vr vm vd ve zr zm zd ze q e u hun) ⟨new_trans hB.out hb'.out, fun h => (j1.out h).below hb'.out, fun _ => hm'.out⟩
set_option maxRecDepth 100000 in
set_option maxHeartbeats 2000000 in
theorem w4s_s4 (A : Act) (w1 : World) (Q : Exit → Act → World → Prop) (bA bB : Nat) (x y : Mc) (vr vm vd ve zr zm zd ze : Value) (q : Bool) 
    (ha : A.tmps.getD 2 undef = .pointer (some ⟨bA, 0, none⟩)) (hb : A.tmps.getD 3 undef = .pointer (some ⟨bB, 0, none⟩)) (qA : Blk w1 bA (mcA x vr vm vd ve)) (qB : Blk w1 bB (mcA y zr zm zd ze)) (hT : (∀ W, Below w1.heap.size w1 W → Calls Tryd.prog 19 #[.agg (mcA x vr vm vd ve)] W fun r w' => ∃ v, r = .returned v ∧ MacB w' v x ∧ Below W.heap.size W w')) (hU : (∀ W, Below w1.heap.size w1 W → Calls Tryd.prog 19 #[.agg (mcA y zr zm zd ze)] W fun r w' => ∃ v, r = .returned v ∧ MacB w' v y ∧ Below W.heap.size W w')) (hE : ∀ W v u, Below w1.heap.size w1 W → MacB W v x → MacB W u y → Calls Tryd.prog 25 #[v, u] W fun r w' => r = .returned (.bool q) ∧ Below W.heap.size W w')
    (f : Nat → Bool) (e : (Value × Value)) (a : Act) (w : World) (hun : f 4 = false) (hdep : ∀ d ∈ w4s_o4.after, Region.binds .any d = true → f d.on = true) (hJ : w4s_J w1 bA bB x y vr vm vd ve zr zm zd ze q f e w) (hFr : Fr w4s_O A f (fun j => w4s_V bA bB x y vr vm vd ve zr zm zd ze q j e) a)
    (K : Act → World → Prop) (hK : Hid (∀ v e' w', v = w4s_V bA bB x y vr vm vd ve zr zm zd ze q 4 e' → (∀ j, f j = true → w4s_V bA bB x y vr vm vd ve zr zm zd ze q j e' = w4s_V bA bB x y vr vm vd ve zr zm zd ze q j e) → w4s_J w1 bA bB x y vr vm vd ve zr zm zd ze q (fun j => j == 4 || f j) e' w' → K (a.put w4s_o4.dst v) w')) :
    if Region.wanted w4s_o4 (yielded w4s_O a.tmps) = true then Oper.wp Tryd.prog w4s_o4 a w K Q else K (a.put w4s_o4.dst undef) w := by
  unfold w4s_o4 at hdep hK ⊢
  have hK9 := hK
  obtain ⟨hB, j1, j3⟩ := hJ
  have k1 : f 1 = true := hdep { on := 1, ground := .data } (by simp) rfl
  have v21 : a.tmps.getD 21 undef = e.1 := hFr.new 1 21 rfl k1
  have k3 : f 3 = true := hdep { on := 3, ground := .data } (by simp) rfl
  have v23 : a.tmps.getD 23 undef = e.2 := hFr.new 3 23 rfl k3
  have r1 := hid (j1 k1)
  have r3 := hid (j3 k3)
  replace hB := hid hB
  replace j1 := hid j1
  replace j3 := hid j3
  replace hT := hid hT
  replace hU := hid hU
  replace hE := hid hE
  replace qA := hid qA
  replace qB := hid qB
  clear hdep hFr ha hb
  obtain ⟨e1, e2⟩ := e
  go_simp
  go_at_call 25
  refine (hE.out w _ _ hB.out r1.out r3.out).mono ?_
  rintro r w' ⟨rfl, hb'⟩
  replace hb' := hid hb'
  go_simp
  exact hK9.out _ (e1, e2) _ rfl (fun _ _ => rfl) ⟨new_trans hB.out hb'.out, fun h => (j1.out h).below hb'.out, fun h => (j3.out h).below hb'.out⟩
set_option maxRecDepth 100000 in
set_option maxHeartbeats 2000000 in
theorem w4s_s5 (A : Act) (w1 : World) (Q : Exit → Act → World → Prop) (bA bB : Nat) (x y : Mc) (vr vm vd ve zr zm zd ze : Value) (q : Bool) 
    (ha : A.tmps.getD 2 undef = .pointer (some ⟨bA, 0, none⟩)) (hb : A.tmps.getD 3 undef = .pointer (some ⟨bB, 0, none⟩)) (qA : Blk w1 bA (mcA x vr vm vd ve)) (qB : Blk w1 bB (mcA y zr zm zd ze)) (hT : (∀ W, Below w1.heap.size w1 W → Calls Tryd.prog 19 #[.agg (mcA x vr vm vd ve)] W fun r w' => ∃ v, r = .returned v ∧ MacB w' v x ∧ Below W.heap.size W w')) (hU : (∀ W, Below w1.heap.size w1 W → Calls Tryd.prog 19 #[.agg (mcA y zr zm zd ze)] W fun r w' => ∃ v, r = .returned v ∧ MacB w' v y ∧ Below W.heap.size W w')) (hE : ∀ W v u, Below w1.heap.size w1 W → MacB W v x → MacB W u y → Calls Tryd.prog 25 #[v, u] W fun r w' => r = .returned (.bool q) ∧ Below W.heap.size W w')
    (f : Nat → Bool) (e : (Value × Value)) (a : Act) (w : World) (hun : f 5 = false) (hdep : ∀ d ∈ w4s_o5.after, Region.binds .any d = true → f d.on = true) (hJ : w4s_J w1 bA bB x y vr vm vd ve zr zm zd ze q f e w) (hFr : Fr w4s_O A f (fun j => w4s_V bA bB x y vr vm vd ve zr zm zd ze q j e) a)
    (K : Act → World → Prop) (hK : Hid (∀ v e' w', v = w4s_V bA bB x y vr vm vd ve zr zm zd ze q 5 e' → (∀ j, f j = true → w4s_V bA bB x y vr vm vd ve zr zm zd ze q j e' = w4s_V bA bB x y vr vm vd ve zr zm zd ze q j e) → w4s_J w1 bA bB x y vr vm vd ve zr zm zd ze q (fun j => j == 5 || f j) e' w' → K (a.put w4s_o5.dst v) w')) :
    if Region.wanted w4s_o5 (yielded w4s_O a.tmps) = true then Oper.wp Tryd.prog w4s_o5 a w K Q else K (a.put w4s_o5.dst undef) w := by
  unfold w4s_o5 at hdep hK ⊢
  have hK9 := hK
  obtain ⟨hB, j1, j3⟩ := hJ
  have k4 : f 4 = true := hdep { on := 4, ground := .data } (by simp) rfl
  have v24 : a.tmps.getD 24 undef = .bool q := hFr.new 4 24 rfl k4
  replace hB := hid hB
  replace j1 := hid j1
  replace j3 := hid j3
  replace hT := hid hT
  replace hU := hid hU
  replace hE := hid hE
  replace qA := hid qA
  replace qB := hid qB
  clear hdep hFr ha hb
  go_simp
  exact hK9.out _ e _ rfl (fun _ _ => rfl) ⟨hB.out, j1.out, j3.out⟩
set_option maxRecDepth 100000 in
set_option maxHeartbeats 4000000 in
theorem w4s_reg (A : Act) (w1 : World) (Q : Exit → Act → World → Prop) (bA bB : Nat) (x y : Mc) (vr vm vd ve zr zm zd ze : Value) (q : Bool) 
    (ha : A.tmps.getD 2 undef = .pointer (some ⟨bA, 0, none⟩)) (hb : A.tmps.getD 3 undef = .pointer (some ⟨bB, 0, none⟩)) (qA : Blk w1 bA (mcA x vr vm vd ve)) (qB : Blk w1 bB (mcA y zr zm zd ze)) (hT : (∀ W, Below w1.heap.size w1 W → Calls Tryd.prog 19 #[.agg (mcA x vr vm vd ve)] W fun r w' => ∃ v, r = .returned v ∧ MacB w' v x ∧ Below W.heap.size W w')) (hU : (∀ W, Below w1.heap.size w1 W → Calls Tryd.prog 19 #[.agg (mcA y zr zm zd ze)] W fun r w' => ∃ v, r = .returned v ∧ MacB w' v y ∧ Below W.heap.size W w')) (hE : ∀ W v u, Below w1.heap.size w1 W → MacB W v x → MacB W u y → Calls Tryd.prog 25 #[v, u] W fun r w' => r = .returned (.bool q) ∧ Below W.heap.size W w') (hN : 25 ≤ A.tmps.size)
    (h : ∀ (w : World) (e : (Value × Value)), Below w1.heap.size w1 w → Q .normal (putsA A [(20, (.agg (mcA x vr vm vd ve))), (21, e.1), (22, (.agg (mcA y zr zm zd ze))), (23, e.2), (24, .bool q), (6, .bool q)]) w) :
    (Code.region 8 #[({ dst := some 20, op := Op.load 58 (Operand.tmp 2), type := 58, pos := "exact.go:3397", after := #[], guard := none } : Oper), ({ dst := some 21, op := Op.call { callee := Callee.value (Operand.func 19), args := #[Operand.tmp 20], argTypes := #[58] }, type := 41, pos := "exact.go:3397", after := #[{ on := 0, ground := Ground.data }], guard := none } : Oper), ({ dst := some 22, op := Op.load 58 (Operand.tmp 3), type := 58, pos := "exact.go:3397", after := #[], guard := none } : Oper), ({ dst := some 23, op := Op.call { callee := Callee.value (Operand.func 19), args := #[Operand.tmp 22], argTypes := #[58] }, type := 41, pos := "exact.go:3397", after := #[{ on := 2, ground := Ground.data }, { on := 1, ground := Ground.chain }], guard := none } : Oper), ({ dst := some 24, op := Op.call { callee := Callee.value (Operand.func 25), args := #[Operand.tmp 21, Operand.tmp 23], argTypes := #[41, 41] }, type := 4, pos := "exact.go:3397", after := #[{ on := 1, ground := Ground.data }, { on := 3, ground := Ground.data }, { on := 3, ground := Ground.chain }], guard := none } : Oper), ({ dst := some 6, op := Op.assign (Operand.tmp 24), type := 4, pos := "exact.go:3397", after := #[{ on := 4, ground := Ground.data }, { on := 4, ground := Ground.chain }, { on := 0, ground := Ground.phase }, { on := 1, ground := Ground.phase }, { on := 2, ground := Ground.phase }, { on := 3, ground := Ground.phase }, { on := 4, ground := Ground.phase }], guard := none } : Oper)] true).wp Tryd.prog Q A w1 := by
  show (Code.region 8 w4s_O true).wp Tryd.prog Q A w1
  refine wp_region_slots (E := (Value × Value)) (w4s_V bA bB x y vr vm vd ve zr zm zd ze q) (w4s_J w1 bA bB x y vr vm vd ve zr zm zd ze q) (by kernel_rfl) (by kernel_rfl) (by kernel_rfl) (fun i s hi => ?_) ?_ (undef, undef) ⟨(Below.refl _ _).drew, fun h => (by cases h), fun h => (by cases h)⟩ ?_
  · cases hc : ([20, 21, 22, 23, 24, 6] : List Nat).contains s
    · exact absurd hi (w4s_no hc i)
    · have : s ∈ ([20, 21, 22, 23, 24, 6] : List Nat) := by simpa using hc
      simp only [List.mem_cons, List.not_mem_nil, or_false] at this
      omega
  · intro f e a w i o hi ho hun hdep hJ hFr K hK
    have hi8 : i < 6 := hi
    rcases (by omega : i = 0 ∨ i = 1 ∨ i = 2 ∨ i = 3 ∨ i = 4 ∨ i = 5) with rfl | rfl | rfl | rfl | rfl | rfl
    · obtain rfl := Option.some.inj ho
      exact w4s_s0 A w1 Q bA bB x y vr vm vd ve zr zm zd ze q ha hb qA qB hT hU hE f e a w hun hdep hJ hFr K hK
    · obtain rfl := Option.some.inj ho
      exact w4s_s1 A w1 Q bA bB x y vr vm vd ve zr zm zd ze q ha hb qA qB hT hU hE f e a w hun hdep hJ hFr K hK
    · obtain rfl := Option.some.inj ho
      exact w4s_s2 A w1 Q bA bB x y vr vm vd ve zr zm zd ze q ha hb qA qB hT hU hE f e a w hun hdep hJ hFr K hK
    · obtain rfl := Option.some.inj ho
      exact w4s_s3 A w1 Q bA bB x y vr vm vd ve zr zm zd ze q ha hb qA qB hT hU hE f e a w hun hdep hJ hFr K hK
    · obtain rfl := Option.some.inj ho
      exact w4s_s4 A w1 Q bA bB x y vr vm vd ve zr zm zd ze q ha hb qA qB hT hU hE f e a w hun hdep hJ hFr K hK
    · obtain rfl := Option.some.inj ho
      exact w4s_s5 A w1 Q bA bB x y vr vm vd ve zr zm zd ze q ha hb qA qB hT hU hE f e a w hun hdep hJ hFr K hK
  · intro f e a w hall hJ hFr
    have := h w e hJ.1
    rw [hFr.eq [(20, (.agg (mcA x vr vm vd ve))), (21, e.1), (22, (.agg (mcA y zr zm zd ze))), (23, e.2), (24, .bool q), (6, .bool q)] (fun s hs => ?_) (fun i s hi => ?_)]
    · exact this
    · have hne : ∀ k ∈ ([20, 21, 22, 23, 24, 6] : List Nat), k ≠ s := by
        intro k hk e2
        subst e2
        simp only [List.mem_cons, List.not_mem_nil, or_false] at hk
        rcases hk with rfl | rfl | rfl | rfl | rfl | rfl
        · exact hs 0 rfl
        · exact hs 1 rfl
        · exact hs 2 rfl
        · exact hs 3 rfl
        · exact hs 4 rfl
        · exact hs 5 rfl
      simp only [lookA]
      simp [hne]
    · have hl : i < 6 := by
        rcases Nat.lt_or_ge i 6 with h1 | h1
        · exact h1
        · unfold dstAt at hi
          rw [Array.getElem?_eq_none (by exact h1)] at hi
          cases hi
      refine ⟨hall i hl, ?_⟩
      rcases (by omega : i = 0 ∨ i = 1 ∨ i = 2 ∨ i = 3 ∨ i = 4 ∨ i = 5) with rfl | rfl | rfl | rfl | rfl | rfl
      all_goals first
        | (cases hi; rfl)
        | cases hi
def w4f_V (bX bA : Nat) (x : Mc) (ur um ud ue vr vm vd ve : Value) : Nat → Value → Value := fun i e => match i with
  | 0 => (.agg (mcA x ur um ud ue))
  | 1 => (.agg (mcA x vr vm vd ve))
  | 2 => e
  | 3 => .bool true
  | 4 => .bool false
  | _ => undef
def w4f_J (w1 : World) (bX bA : Nat) (x : Mc) (ur um ud ue vr vm vd ve : Value) (f : Nat → Bool) (e : Value) (w : World) : Prop :=
  Below w1.heap.size w1 w ∧ (f 2 = true → MacB w e x)
def w4f_o0 : Oper := ({ dst := some 35, op := Op.load 41 (Operand.tmp 7), type := 41, pos := "exact.go:3404", after := #[], guard := none } : Oper)
def w4f_o1 : Oper := ({ dst := some 36, op := Op.load 58 (Operand.tmp 2), type := 58, pos := "exact.go:3404", after := #[], guard := none } : Oper)
def w4f_o2 : Oper := ({ dst := some 37, op := Op.call { callee := Callee.value (Operand.func 19), args := #[Operand.tmp 36], argTypes := #[58] }, type := 41, pos := "exact.go:3404", after := #[{ on := 1, ground := Ground.data }], guard := none } : Oper)
def w4f_o3 : Oper := ({ dst := some 38, op := Op.call { callee := Callee.value (Operand.func 11), args := #[Operand.tmp 35, Operand.tmp 37], argTypes := #[41, 41] }, type := 4, pos := "exact.go:3404", after := #[{ on := 0, ground := Ground.data }, { on := 2, ground := Ground.data }, { on := 2, ground := Ground.chain }], guard := none } : Oper)
def w4f_o4 : Oper := ({ dst := some 39, op := Op.unOp UnOp.not 4 (Operand.tmp 38), type := 4, pos := "exact.go:3404", after := #[{ on := 3, ground := Ground.data }], guard := none } : Oper)
def w4f_O : Array Oper := #[w4f_o0, w4f_o1, w4f_o2, w4f_o3, w4f_o4]
theorem w4f_no {s : Nat} (h : ([35, 36, 37, 38, 39] : List Nat).contains s = false) : ∀ i, dstAt w4f_O i ≠ some s := by
  intro i hi
  have hl : i < 5 := by
    rcases Nat.lt_or_ge i 5 with h1 | h1
    · exact h1
    · unfold dstAt at hi
      rw [Array.getElem?_eq_none (by exact h1)] at hi
      cases hi
  rcases (by omega : i = 0 ∨ i = 1 ∨ i = 2 ∨ i = 3 ∨ i = 4) with rfl | rfl | rfl | rfl | rfl
  all_goals first
    | (cases hi; simp at h)
    | cases hi
theorem w4f_keep (bX bA : Nat) (x : Mc) (ur um ud ue vr vm vd ve : Value) {f : Nat → Bool} (e : Value) (u : Value) (hn : f 2 = false) : ∀ j, f j = true → w4f_V bX bA x ur um ud ue vr vm vd ve j u = w4f_V bX bA x ur um ud ue vr vm vd ve j e := by
  intro j hj
  unfold w4f_V
  split
  · rfl
  · rfl
  · rw [hn] at hj; cases hj
  · rfl
  · rfl
  · rfl
set_option maxRecDepth 100000 in
set_option maxHeartbeats 2000000 in
theorem w4f_s0 (A : Act) (w1 : World) (Q : Exit → Act → World → Prop) (bX bA : Nat) (x : Mc) (ur um ud ue vr vm vd ve : Value) 
    (hx : A.tmps.getD 7 undef = .pointer (some ⟨bX, 0, none⟩)) (ha : A.tmps.getD 2 undef = .pointer (some ⟨bA, 0, none⟩)) (qX : Blk w1 bX (mcA x ur um ud ue)) (qA : Blk w1 bA (mcA x vr vm vd ve)) (hT : ∀ W, Below w1.heap.size w1 W → Calls Tryd.prog 19 #[.agg (mcA x vr vm vd ve)] W fun r w' => ∃ v, r = .returned v ∧ MacB w' v x ∧ Below W.heap.size W w') (hE : ∀ W v, Below w1.heap.size w1 W → MacB W v x → Calls Tryd.prog 11 #[.agg (mcA x ur um ud ue), v] W fun r w' => r = .returned (.bool true) ∧ Below W.heap.size W w')
    (f : Nat → Bool) (e : Value) (a : Act) (w : World) (hun : f 0 = false) (hdep : ∀ d ∈ w4f_o0.after, Region.binds .any d = true → f d.on = true) (hJ : w4f_J w1 bX bA x ur um ud ue vr vm vd ve f e w) (hFr : Fr w4f_O A f (fun j => w4f_V bX bA x ur um ud ue vr vm vd ve j e) a)
    (K : Act → World → Prop) (hK : Hid (∀ v e' w', v = w4f_V bX bA x ur um ud ue vr vm vd ve 0 e' → (∀ j, f j = true → w4f_V bX bA x ur um ud ue vr vm vd ve j e' = w4f_V bX bA x ur um ud ue vr vm vd ve j e) → w4f_J w1 bX bA x ur um ud ue vr vm vd ve (fun j => j == 0 || f j) e' w' → K (a.put w4f_o0.dst v) w')) :
    if Region.wanted w4f_o0 (yielded w4f_O a.tmps) = true then Oper.wp Tryd.prog w4f_o0 a w K Q else K (a.put w4f_o0.dst undef) w := by
  unfold w4f_o0 at hdep hK ⊢
  have hK9 := hK
  obtain ⟨hB, j2⟩ := hJ
  have v7 := (hFr.old 7 (w4f_no (by decide))).trans hx
  have x0 := mc_all (qX.below hB qX.lt)
  rw [if_pos (show Region.wanted _ _ = true from rfl)]
  refine wp_load_mid 41 _ rfl bX 0 v7 (mcA x ur um ud ue).toList _ x0 Tryd.underlying41 rfl (szMc _ _ _ _ _) ?_
  exact hK9.out _ e _ rfl (fun _ _ => rfl) ⟨hB, j2⟩
set_option maxRecDepth 100000 in
set_option maxHeartbeats 2000000 in
theorem w4f_s1 (A : Act) (w1 : World) (Q : Exit → Act → World → Prop) (bX bA : Nat) (x : Mc) (ur um ud ue vr vm vd ve : Value) 
    (hx : A.tmps.getD 7 undef = .pointer (some ⟨bX, 0, none⟩)) (ha : A.tmps.getD 2 undef = .pointer (some ⟨bA, 0, none⟩)) (qX : Blk w1 bX (mcA x ur um ud ue)) (qA : Blk w1 bA (mcA x vr vm vd ve)) (hT : ∀ W, Below w1.heap.size w1 W → Calls Tryd.prog 19 #[.agg (mcA x vr vm vd ve)] W fun r w' => ∃ v, r = .returned v ∧ MacB w' v x ∧ Below W.heap.size W w') (hE : ∀ W v, Below w1.heap.size w1 W → MacB W v x → Calls Tryd.prog 11 #[.agg (mcA x ur um ud ue), v] W fun r w' => r = .returned (.bool true) ∧ Below W.heap.size W w')
    (f : Nat → Bool) (e : Value) (a : Act) (w : World) (hun : f 1 = false) (hdep : ∀ d ∈ w4f_o1.after, Region.binds .any d = true → f d.on = true) (hJ : w4f_J w1 bX bA x ur um ud ue vr vm vd ve f e w) (hFr : Fr w4f_O A f (fun j => w4f_V bX bA x ur um ud ue vr vm vd ve j e) a)
    (K : Act → World → Prop) (hK : Hid (∀ v e' w', v = w4f_V bX bA x ur um ud ue vr vm vd ve 1 e' → (∀ j, f j = true → w4f_V bX bA x ur um ud ue vr vm vd ve j e' = w4f_V bX bA x ur um ud ue vr vm vd ve j e) → w4f_J w1 bX bA x ur um ud ue vr vm vd ve (fun j => j == 1 || f j) e' w' → K (a.put w4f_o1.dst v) w')) :
    if Region.wanted w4f_o1 (yielded w4f_O a.tmps) = true then Oper.wp Tryd.prog w4f_o1 a w K Q else K (a.put w4f_o1.dst undef) w := by
  unfold w4f_o1 at hdep hK ⊢
  have hK9 := hK
  obtain ⟨hB, j2⟩ := hJ
  have v2 := (hFr.old 2 (w4f_no (by decide))).trans ha
  have x0 := mc_all (qA.below hB qA.lt)
  rw [if_pos (show Region.wanted _ _ = true from rfl)]
  refine wp_load_mid 58 _ rfl bA 0 v2 (mcA x vr vm vd ve).toList _ x0 Tryd.underlying58 rfl (szLMc _ _ _ _ _) ?_
  exact hK9.out _ e _ rfl (fun _ _ => rfl) ⟨hB, j2⟩
set_option maxRecDepth 100000 in
set_option maxHeartbeats 2000000 in
theorem w4f_s2 (A : Act) (w1 : World) (Q : Exit → Act → World → Prop) (bX bA : Nat) (x : Mc) (ur um ud ue vr vm vd ve : Value) 
    (hx : A.tmps.getD 7 undef = .pointer (some ⟨bX, 0, none⟩)) (ha : A.tmps.getD 2 undef = .pointer (some ⟨bA, 0, none⟩)) (qX : Blk w1 bX (mcA x ur um ud ue)) (qA : Blk w1 bA (mcA x vr vm vd ve)) (hT : ∀ W, Below w1.heap.size w1 W → Calls Tryd.prog 19 #[.agg (mcA x vr vm vd ve)] W fun r w' => ∃ v, r = .returned v ∧ MacB w' v x ∧ Below W.heap.size W w') (hE : ∀ W v, Below w1.heap.size w1 W → MacB W v x → Calls Tryd.prog 11 #[.agg (mcA x ur um ud ue), v] W fun r w' => r = .returned (.bool true) ∧ Below W.heap.size W w')
    (f : Nat → Bool) (e : Value) (a : Act) (w : World) (hun : f 2 = false) (hdep : ∀ d ∈ w4f_o2.after, Region.binds .any d = true → f d.on = true) (hJ : w4f_J w1 bX bA x ur um ud ue vr vm vd ve f e w) (hFr : Fr w4f_O A f (fun j => w4f_V bX bA x ur um ud ue vr vm vd ve j e) a)
    (K : Act → World → Prop) (hK : Hid (∀ v e' w', v = w4f_V bX bA x ur um ud ue vr vm vd ve 2 e' → (∀ j, f j = true → w4f_V bX bA x ur um ud ue vr vm vd ve j e' = w4f_V bX bA x ur um ud ue vr vm vd ve j e) → w4f_J w1 bX bA x ur um ud ue vr vm vd ve (fun j => j == 2 || f j) e' w' → K (a.put w4f_o2.dst v) w')) :
    if Region.wanted w4f_o2 (yielded w4f_O a.tmps) = true then Oper.wp Tryd.prog w4f_o2 a w K Q else K (a.put w4f_o2.dst undef) w := by
  unfold w4f_o2 at hdep hK ⊢
  have hK9 := hK
  obtain ⟨hB, j2⟩ := hJ
  have k1 : f 1 = true := hdep { on := 1, ground := .data } (by simp) rfl
  have v36 : a.tmps.getD 36 undef = (.agg (mcA x vr vm vd ve)) := hFr.new 1 36 rfl k1
  replace hB := hid hB
  replace j2 := hid j2
  replace hT := hid hT
  replace hE := hid hE
  replace qX := hid qX
  replace qA := hid qA
  clear hdep hFr hx ha
  go_simp
  go_at_call 19
  refine (hT.out w hB.out).mono ?_
  rintro r w' ⟨u, rfl, hm', hb'⟩
  replace hm' := hid hm'
  replace hb' := hid hb'
  go_simp
  exact hK9.out _ u _ rfl (w4f_keep bX bA x ur um ud ue vr vm vd ve e u hun) ⟨new_trans hB.out hb'.out, fun _ => hm'.out⟩
set_option maxRecDepth 100000 in
set_option maxHeartbeats 2000000 in
theorem w4f_s3 (A : Act) (w1 : World) (Q : Exit → Act → World → Prop) (bX bA : Nat) (x : Mc) (ur um ud ue vr vm vd ve : Value) 
    (hx : A.tmps.getD 7 undef = .pointer (some ⟨bX, 0, none⟩)) (ha : A.tmps.getD 2 undef = .pointer (some ⟨bA, 0, none⟩)) (qX : Blk w1 bX (mcA x ur um ud ue)) (qA : Blk w1 bA (mcA x vr vm vd ve)) (hT : ∀ W, Below w1.heap.size w1 W → Calls Tryd.prog 19 #[.agg (mcA x vr vm vd ve)] W fun r w' => ∃ v, r = .returned v ∧ MacB w' v x ∧ Below W.heap.size W w') (hE : ∀ W v, Below w1.heap.size w1 W → MacB W v x → Calls Tryd.prog 11 #[.agg (mcA x ur um ud ue), v] W fun r w' => r = .returned (.bool true) ∧ Below W.heap.size W w')
    (f : Nat → Bool) (e : Value) (a : Act) (w : World) (hun : f 3 = false) (hdep : ∀ d ∈ w4f_o3.after, Region.binds .any d = true → f d.on = true) (hJ : w4f_J w1 bX bA x ur um ud ue vr vm vd ve f e w) (hFr : Fr w4f_O A f (fun j => w4f_V bX bA x ur um ud ue vr vm vd ve j e) a)
    (K : Act → World → Prop) (hK : Hid (∀ v e' w', v = w4f_V bX bA x ur um ud ue vr vm vd ve 3 e' → (∀ j, f j = true → w4f_V bX bA x ur um ud ue vr vm vd ve j e' = w4f_V bX bA x ur um ud ue vr vm vd ve j e) → w4f_J w1 bX bA x ur um ud ue vr vm vd ve (fun j => j == 3 || f j) e' w' → K (a.put w4f_o3.dst v) w')) :
    if Region.wanted w4f_o3 (yielded w4f_O a.tmps) = true then Oper.wp Tryd.prog w4f_o3 a w K Q else K (a.put w4f_o3.dst undef) w := by
  unfold w4f_o3 at hdep hK ⊢
  have hK9 := hK
  obtain ⟨hB, j2⟩ := hJ
  have k0 : f 0 = true := hdep { on := 0, ground := .data } (by simp) rfl
  have v35 : a.tmps.getD 35 undef = (.agg (mcA x ur um ud ue)) := hFr.new 0 35 rfl k0
  have k2 : f 2 = true := hdep { on := 2, ground := .data } (by simp) rfl
  have v37 : a.tmps.getD 37 undef = e := hFr.new 2 37 rfl k2
  have r2 := hid (j2 k2)
  replace hB := hid hB
  replace j2 := hid j2
  replace hT := hid hT
  replace hE := hid hE
  replace qX := hid qX
  replace qA := hid qA
  clear hdep hFr hx ha
  go_simp
  go_at_call 11
  refine (hE.out w _ hB.out r2.out).mono ?_
  rintro r w' ⟨rfl, hb'⟩
  replace hb' := hid hb'
  go_simp
  exact hK9.out _ e _ rfl (fun _ _ => rfl) ⟨new_trans hB.out hb'.out, fun h => (j2.out h).below hb'.out⟩
set_option maxRecDepth 100000 in
set_option maxHeartbeats 2000000 in
theorem w4f_s4 (A : Act) (w1 : World) (Q : Exit → Act → World → Prop) (bX bA : Nat) (x : Mc) (ur um ud ue vr vm vd ve : Value) 
    (hx : A.tmps.getD 7 undef = .pointer (some ⟨bX, 0, none⟩)) (ha : A.tmps.getD 2 undef = .pointer (some ⟨bA, 0, none⟩)) (qX : Blk w1 bX (mcA x ur um ud ue)) (qA : Blk w1 bA (mcA x vr vm vd ve)) (hT : ∀ W, Below w1.heap.size w1 W → Calls Tryd.prog 19 #[.agg (mcA x vr vm vd ve)] W fun r w' => ∃ v, r = .returned v ∧ MacB w' v x ∧ Below W.heap.size W w') (hE : ∀ W v, Below w1.heap.size w1 W → MacB W v x → Calls Tryd.prog 11 #[.agg (mcA x ur um ud ue), v] W fun r w' => r = .returned (.bool true) ∧ Below W.heap.size W w')
    (f : Nat → Bool) (e : Value) (a : Act) (w : World) (hun : f 4 = false) (hdep : ∀ d ∈ w4f_o4.after, Region.binds .any d = true → f d.on = true) (hJ : w4f_J w1 bX bA x ur um ud ue vr vm vd ve f e w) (hFr : Fr w4f_O A f (fun j => w4f_V bX bA x ur um ud ue vr vm vd ve j e) a)
    (K : Act → World → Prop) (hK : Hid (∀ v e' w', v = w4f_V bX bA x ur um ud ue vr vm vd ve 4 e' → (∀ j, f j = true → w4f_V bX bA x ur um ud ue vr vm vd ve j e' = w4f_V bX bA x ur um ud ue vr vm vd ve j e) → w4f_J w1 bX bA x ur um ud ue vr vm vd ve (fun j => j == 4 || f j) e' w' → K (a.put w4f_o4.dst v) w')) :
    if Region.wanted w4f_o4 (yielded w4f_O a.tmps) = true then Oper.wp Tryd.prog w4f_o4 a w K Q else K (a.put w4f_o4.dst undef) w := by
  unfold w4f_o4 at hdep hK ⊢
  have hK9 := hK
  obtain ⟨hB, j2⟩ := hJ
  have k3 : f 3 = true := hdep { on := 3, ground := .data } (by simp) rfl
  have v38 : a.tmps.getD 38 undef = .bool true := hFr.new 3 38 rfl k3
  replace hB := hid hB
  replace j2 := hid j2
  replace hT := hid hT
  replace hE := hid hE
  replace qX := hid qX
  replace qA := hid qA
  clear hdep hFr hx ha
  go_simp
  exact hK9.out _ e _ rfl (fun _ _ => rfl) ⟨hB.out, j2.out⟩
set_option maxRecDepth 100000 in
set_option maxHeartbeats 4000000 in
theorem w4f_reg (A : Act) (w1 : World) (Q : Exit → Act → World → Prop) (bX bA : Nat) (x : Mc) (ur um ud ue vr vm vd ve : Value) 
    (hx : A.tmps.getD 7 undef = .pointer (some ⟨bX, 0, none⟩)) (ha : A.tmps.getD 2 undef = .pointer (some ⟨bA, 0, none⟩)) (qX : Blk w1 bX (mcA x ur um ud ue)) (qA : Blk w1 bA (mcA x vr vm vd ve)) (hT : ∀ W, Below w1.heap.size w1 W → Calls Tryd.prog 19 #[.agg (mcA x vr vm vd ve)] W fun r w' => ∃ v, r = .returned v ∧ MacB w' v x ∧ Below W.heap.size W w') (hE : ∀ W v, Below w1.heap.size w1 W → MacB W v x → Calls Tryd.prog 11 #[.agg (mcA x ur um ud ue), v] W fun r w' => r = .returned (.bool true) ∧ Below W.heap.size W w') (hN : 40 ≤ A.tmps.size)
    (h : ∀ (w : World) (e : Value), Below w1.heap.size w1 w → Q .normal (putsA A [(35, (.agg (mcA x ur um ud ue))), (36, (.agg (mcA x vr vm vd ve))), (37, e), (38, .bool true), (39, .bool false)]) w) :
    (Code.region 14 #[({ dst := some 35, op := Op.load 41 (Operand.tmp 7), type := 41, pos := "exact.go:3404", after := #[], guard := none } : Oper), ({ dst := some 36, op := Op.load 58 (Operand.tmp 2), type := 58, pos := "exact.go:3404", after := #[], guard := none } : Oper), ({ dst := some 37, op := Op.call { callee := Callee.value (Operand.func 19), args := #[Operand.tmp 36], argTypes := #[58] }, type := 41, pos := "exact.go:3404", after := #[{ on := 1, ground := Ground.data }], guard := none } : Oper), ({ dst := some 38, op := Op.call { callee := Callee.value (Operand.func 11), args := #[Operand.tmp 35, Operand.tmp 37], argTypes := #[41, 41] }, type := 4, pos := "exact.go:3404", after := #[{ on := 0, ground := Ground.data }, { on := 2, ground := Ground.data }, { on := 2, ground := Ground.chain }], guard := none } : Oper), ({ dst := some 39, op := Op.unOp UnOp.not 4 (Operand.tmp 38), type := 4, pos := "exact.go:3404", after := #[{ on := 3, ground := Ground.data }], guard := none } : Oper)] true).wp Tryd.prog Q A w1 := by
  show (Code.region 14 w4f_O true).wp Tryd.prog Q A w1
  refine wp_region_slots (E := Value) (w4f_V bX bA x ur um ud ue vr vm vd ve) (w4f_J w1 bX bA x ur um ud ue vr vm vd ve) (by kernel_rfl) (by kernel_rfl) (by kernel_rfl) (fun i s hi => ?_) ?_ undef ⟨(Below.refl _ _).drew, fun h => (by cases h)⟩ ?_
  · cases hc : ([35, 36, 37, 38, 39] : List Nat).contains s
    · exact absurd hi (w4f_no hc i)
    · have : s ∈ ([35, 36, 37, 38, 39] : List Nat) := by simpa using hc
      simp only [List.mem_cons, List.not_mem_nil, or_false] at this
      omega
  · intro f e a w i o hi ho hun hdep hJ hFr K hK
    have hi8 : i < 5 := hi
    rcases (by omega : i = 0 ∨ i = 1 ∨ i = 2 ∨ i = 3 ∨ i = 4) with rfl | rfl | rfl | rfl | rfl
    · obtain rfl := Option.some.inj ho
      exact w4f_s0 A w1 Q bX bA x ur um ud ue vr vm vd ve hx ha qX qA hT hE f e a w hun hdep hJ hFr K hK
    · obtain rfl := Option.some.inj ho
      exact w4f_s1 A w1 Q bX bA x ur um ud ue vr vm vd ve hx ha qX qA hT hE f e a w hun hdep hJ hFr K hK
    · obtain rfl := Option.some.inj ho
      exact w4f_s2 A w1 Q bX bA x ur um ud ue vr vm vd ve hx ha qX qA hT hE f e a w hun hdep hJ hFr K hK
    · obtain rfl := Option.some.inj ho
      exact w4f_s3 A w1 Q bX bA x ur um ud ue vr vm vd ve hx ha qX qA hT hE f e a w hun hdep hJ hFr K hK
    · obtain rfl := Option.some.inj ho
      exact w4f_s4 A w1 Q bX bA x ur um ud ue vr vm vd ve hx ha qX qA hT hE f e a w hun hdep hJ hFr K hK
  · intro f e a w hall hJ hFr
    have := h w e hJ.1
    rw [hFr.eq [(35, (.agg (mcA x ur um ud ue))), (36, (.agg (mcA x vr vm vd ve))), (37, e), (38, .bool true), (39, .bool false)] (fun s hs => ?_) (fun i s hi => ?_)]
    · exact this
    · have hne : ∀ k ∈ ([35, 36, 37, 38, 39] : List Nat), k ≠ s := by
        intro k hk e2
        subst e2
        simp only [List.mem_cons, List.not_mem_nil, or_false] at hk
        rcases hk with rfl | rfl | rfl | rfl | rfl
        · exact hs 0 rfl
        · exact hs 1 rfl
        · exact hs 2 rfl
        · exact hs 3 rfl
        · exact hs 4 rfl
      simp only [lookA]
      simp [hne]
    · have hl : i < 5 := by
        rcases Nat.lt_or_ge i 5 with h1 | h1
        · exact h1
        · unfold dstAt at hi
          rw [Array.getElem?_eq_none (by exact h1)] at hi
          cases hi
      refine ⟨hall i hl, ?_⟩
      rcases (by omega : i = 0 ∨ i = 1 ∨ i = 2 ∨ i = 3 ∨ i = 4) with rfl | rfl | rfl | rfl | rfl
      all_goals first
        | (cases hi; rfl)
        | cases hi
def w4g_V (bX bA : Nat) (x : Mc) (ur um ud ue vr vm vd ve : Value) : Nat → Value → Value := fun i e => match i with
  | 0 => (.agg (mcA x ur um ud ue))
  | 1 => (.agg (mcA x vr vm vd ve))
  | 2 => e
  | 3 => .bool true
  | 4 => .bool false
  | _ => undef
def w4g_J (w1 : World) (bX bA : Nat) (x : Mc) (ur um ud ue vr vm vd ve : Value) (f : Nat → Bool) (e : Value) (w : World) : Prop :=
  Below w1.heap.size w1 w ∧ (f 2 = true → MacB w e x)
def w4g_o0 : Oper := ({ dst := some 40, op := Op.load 41 (Operand.tmp 8), type := 41, pos := "exact.go:3407", after := #[], guard := none } : Oper)
def w4g_o1 : Oper := ({ dst := some 41, op := Op.load 58 (Operand.tmp 3), type := 58, pos := "exact.go:3407", after := #[], guard := none } : Oper)
def w4g_o2 : Oper := ({ dst := some 42, op := Op.call { callee := Callee.value (Operand.func 19), args := #[Operand.tmp 41], argTypes := #[58] }, type := 41, pos := "exact.go:3407", after := #[{ on := 1, ground := Ground.data }], guard := none } : Oper)
def w4g_o3 : Oper := ({ dst := some 43, op := Op.call { callee := Callee.value (Operand.func 11), args := #[Operand.tmp 40, Operand.tmp 42], argTypes := #[41, 41] }, type := 4, pos := "exact.go:3407", after := #[{ on := 0, ground := Ground.data }, { on := 2, ground := Ground.data }, { on := 2, ground := Ground.chain }], guard := none } : Oper)
def w4g_o4 : Oper := ({ dst := some 44, op := Op.unOp UnOp.not 4 (Operand.tmp 43), type := 4, pos := "exact.go:3407", after := #[{ on := 3, ground := Ground.data }], guard := none } : Oper)
def w4g_O : Array Oper := #[w4g_o0, w4g_o1, w4g_o2, w4g_o3, w4g_o4]
theorem w4g_no {s : Nat} (h : ([40, 41, 42, 43, 44] : List Nat).contains s = false) : ∀ i, dstAt w4g_O i ≠ some s := by
  intro i hi
  have hl : i < 5 := by
    rcases Nat.lt_or_ge i 5 with h1 | h1
    · exact h1
    · unfold dstAt at hi
      rw [Array.getElem?_eq_none (by exact h1)] at hi
      cases hi
  rcases (by omega : i = 0 ∨ i = 1 ∨ i = 2 ∨ i = 3 ∨ i = 4) with rfl | rfl | rfl | rfl | rfl
  all_goals first
    | (cases hi; simp at h)
    | cases hi
theorem w4g_keep (bX bA : Nat) (x : Mc) (ur um ud ue vr vm vd ve : Value) {f : Nat → Bool} (e : Value) (u : Value) (hn : f 2 = false) : ∀ j, f j = true → w4g_V bX bA x ur um ud ue vr vm vd ve j u = w4g_V bX bA x ur um ud ue vr vm vd ve j e := by
  intro j hj
  unfold w4g_V
  split
  · rfl
  · rfl
  · rw [hn] at hj; cases hj
  · rfl
  · rfl
  · rfl
set_option maxRecDepth 100000 in
set_option maxHeartbeats 2000000 in
theorem w4g_s0 (A : Act) (w1 : World) (Q : Exit → Act → World → Prop) (bX bA : Nat) (x : Mc) (ur um ud ue vr vm vd ve : Value) 
    (hx : A.tmps.getD 8 undef = .pointer (some ⟨bX, 0, none⟩)) (ha : A.tmps.getD 3 undef = .pointer (some ⟨bA, 0, none⟩)) (qX : Blk w1 bX (mcA x ur um ud ue)) (qA : Blk w1 bA (mcA x vr vm vd ve)) (hT : ∀ W, Below w1.heap.size w1 W → Calls Tryd.prog 19 #[.agg (mcA x vr vm vd ve)] W fun r w' => ∃ v, r = .returned v ∧ MacB w' v x ∧ Below W.heap.size W w') (hE : ∀ W v, Below w1.heap.size w1 W → MacB W v x → Calls Tryd.prog 11 #[.agg (mcA x ur um ud ue), v] W fun r w' => r = .returned (.bool true) ∧ Below W.heap.size W w')
    (f : Nat → Bool) (e : Value) (a : Act) (w : World) (hun : f 0 = false) (hdep : ∀ d ∈ w4g_o0.after, Region.binds .any d = true → f d.on = true) (hJ : w4g_J w1 bX bA x ur um ud ue vr vm vd ve f e w) (hFr : Fr w4g_O A f (fun j => w4g_V bX bA x ur um ud ue vr vm vd ve j e) a)
    (K : Act → World → Prop) (hK : Hid (∀ v e' w', v = w4g_V bX bA x ur um ud ue vr vm vd ve 0 e' → (∀ j, f j = true → w4g_V bX bA x ur um ud ue vr vm vd ve j e' = w4g_V bX bA x ur um ud ue vr vm vd ve j e) → w4g_J w1 bX bA x ur um ud ue vr vm vd ve (fun j => j == 0 || f j) e' w' → K (a.put w4g_o0.dst v) w')) :
    if Region.wanted w4g_o0 (yielded w4g_O a.tmps) = true then Oper.wp Tryd.prog w4g_o0 a w K Q else K (a.put w4g_o0.dst undef) w := by
  unfold w4g_o0 at hdep hK ⊢
  have hK9 := hK
  obtain ⟨hB, j2⟩ := hJ
  have v8 := (hFr.old 8 (w4g_no (by decide))).trans hx
  have x0 := mc_all (qX.below hB qX.lt)
  rw [if_pos (show Region.wanted _ _ = true from rfl)]
  refine wp_load_mid 41 _ rfl bX 0 v8 (mcA x ur um ud ue).toList _ x0 Tryd.underlying41 rfl (szMc _ _ _ _ _) ?_
  exact hK9.out _ e _ rfl (fun _ _ => rfl) ⟨hB, j2⟩
set_option maxRecDepth 100000 in
set_option maxHeartbeats 2000000 in
theorem w4g_s1 (A : Act) (w1 : World) (Q : Exit → Act → World → Prop) (bX bA : Nat) (x : Mc) (ur um ud ue vr vm vd ve : Value) 
    (hx : A.tmps.getD 8 undef = .pointer (some ⟨bX, 0, none⟩)) (ha : A.tmps.getD 3 undef = .pointer (some ⟨bA, 0, none⟩)) (qX : Blk w1 bX (mcA x ur um ud ue)) (qA : Blk w1 bA (mcA x vr vm vd ve)) (hT : ∀ W, Below w1.heap.size w1 W → Calls Tryd.prog 19 #[.agg (mcA x vr vm vd ve)] W fun r w' => ∃ v, r = .returned v ∧ MacB w' v x ∧ Below W.heap.size W w') (hE : ∀ W v, Below w1.heap.size w1 W → MacB W v x → Calls Tryd.prog 11 #[.agg (mcA x ur um ud ue), v] W fun r w' => r = .returned (.bool true) ∧ Below W.heap.size W w')
    (f : Nat → Bool) (e : Value) (a : Act) (w : World) (hun : f 1 = false) (hdep : ∀ d ∈ w4g_o1.after, Region.binds .any d = true → f d.on = true) (hJ : w4g_J w1 bX bA x ur um ud ue vr vm vd ve f e w) (hFr : Fr w4g_O A f (fun j => w4g_V bX bA x ur um ud ue vr vm vd ve j e) a)
    (K : Act → World → Prop) (hK : Hid (∀ v e' w', v = w4g_V bX bA x ur um ud ue vr vm vd ve 1 e' → (∀ j, f j = true → w4g_V bX bA x ur um ud ue vr vm vd ve j e' = w4g_V bX bA x ur um ud ue vr vm vd ve j e) → w4g_J w1 bX bA x ur um ud ue vr vm vd ve (fun j => j == 1 || f j) e' w' → K (a.put w4g_o1.dst v) w')) :
    if Region.wanted w4g_o1 (yielded w4g_O a.tmps) = true then Oper.wp Tryd.prog w4g_o1 a w K Q else K (a.put w4g_o1.dst undef) w := by
  unfold w4g_o1 at hdep hK ⊢
  have hK9 := hK
  obtain ⟨hB, j2⟩ := hJ
  have v3 := (hFr.old 3 (w4g_no (by decide))).trans ha
  have x0 := mc_all (qA.below hB qA.lt)
  rw [if_pos (show Region.wanted _ _ = true from rfl)]
  refine wp_load_mid 58 _ rfl bA 0 v3 (mcA x vr vm vd ve).toList _ x0 Tryd.underlying58 rfl (szLMc _ _ _ _ _) ?_
  exact hK9.out _ e _ rfl (fun _ _ => rfl) ⟨hB, j2⟩
set_option maxRecDepth 100000 in
set_option maxHeartbeats 2000000 in
theorem w4g_s2 (A : Act) (w1 : World) (Q : Exit → Act → World → Prop) (bX bA : Nat) (x : Mc) (ur um ud ue vr vm vd ve : Value) 
    (hx : A.tmps.getD 8 undef = .pointer (some ⟨bX, 0, none⟩)) (ha : A.tmps.getD 3 undef = .pointer (some ⟨bA, 0, none⟩)) (qX : Blk w1 bX (mcA x ur um ud ue)) (qA : Blk w1 bA (mcA x vr vm vd ve)) (hT : ∀ W, Below w1.heap.size w1 W → Calls Tryd.prog 19 #[.agg (mcA x vr vm vd ve)] W fun r w' => ∃ v, r = .returned v ∧ MacB w' v x ∧ Below W.heap.size W w') (hE : ∀ W v, Below w1.heap.size w1 W → MacB W v x → Calls Tryd.prog 11 #[.agg (mcA x ur um ud ue), v] W fun r w' => r = .returned (.bool true) ∧ Below W.heap.size W w')
    (f : Nat → Bool) (e : Value) (a : Act) (w : World) (hun : f 2 = false) (hdep : ∀ d ∈ w4g_o2.after, Region.binds .any d = true → f d.on = true) (hJ : w4g_J w1 bX bA x ur um ud ue vr vm vd ve f e w) (hFr : Fr w4g_O A f (fun j => w4g_V bX bA x ur um ud ue vr vm vd ve j e) a)
    (K : Act → World → Prop) (hK : Hid (∀ v e' w', v = w4g_V bX bA x ur um ud ue vr vm vd ve 2 e' → (∀ j, f j = true → w4g_V bX bA x ur um ud ue vr vm vd ve j e' = w4g_V bX bA x ur um ud ue vr vm vd ve j e) → w4g_J w1 bX bA x ur um ud ue vr vm vd ve (fun j => j == 2 || f j) e' w' → K (a.put w4g_o2.dst v) w')) :
    if Region.wanted w4g_o2 (yielded w4g_O a.tmps) = true then Oper.wp Tryd.prog w4g_o2 a w K Q else K (a.put w4g_o2.dst undef) w := by
  unfold w4g_o2 at hdep hK ⊢
  have hK9 := hK
  obtain ⟨hB, j2⟩ := hJ
  have k1 : f 1 = true := hdep { on := 1, ground := .data } (by simp) rfl
  have v41 : a.tmps.getD 41 undef = (.agg (mcA x vr vm vd ve)) := hFr.new 1 41 rfl k1
  replace hB := hid hB
  replace j2 := hid j2
  replace hT := hid hT
  replace hE := hid hE
  replace qX := hid qX
  replace qA := hid qA
  clear hdep hFr hx ha
  go_simp
  go_at_call 19
  refine (hT.out w hB.out).mono ?_
  rintro r w' ⟨u, rfl, hm', hb'⟩
  replace hm' := hid hm'
  replace hb' := hid hb'
  go_simp
  exact hK9.out _ u _ rfl (w4g_keep bX bA x ur um ud ue vr vm vd ve e u hun) ⟨new_trans hB.out hb'.out, fun _ => hm'.out⟩
set_option maxRecDepth 100000 in
set_option maxHeartbeats 2000000 in
theorem w4g_s3 (A : Act) (w1 : World) (Q : Exit → Act → World → Prop) (bX bA : Nat) (x : Mc) (ur um ud ue vr vm vd ve : Value) 
    (hx : A.tmps.getD 8 undef = .pointer (some ⟨bX, 0, none⟩)) (ha : A.tmps.getD 3 undef = .pointer (some ⟨bA, 0, none⟩)) (qX : Blk w1 bX (mcA x ur um ud ue)) (qA : Blk w1 bA (mcA x vr vm vd ve)) (hT : ∀ W, Below w1.heap.size w1 W → Calls Tryd.prog 19 #[.agg (mcA x vr vm vd ve)] W fun r w' => ∃ v, r = .returned v ∧ MacB w' v x ∧ Below W.heap.size W w') (hE : ∀ W v, Below w1.heap.size w1 W → MacB W v x → Calls Tryd.prog 11 #[.agg (mcA x ur um ud ue), v] W fun r w' => r = .returned (.bool true) ∧ Below W.heap.size W w')
    (f : Nat → Bool) (e : Value) (a : Act) (w : World) (hun : f 3 = false) (hdep : ∀ d ∈ w4g_o3.after, Region.binds .any d = true → f d.on = true) (hJ : w4g_J w1 bX bA x ur um ud ue vr vm vd ve f e w) (hFr : Fr w4g_O A f (fun j => w4g_V bX bA x ur um ud ue vr vm vd ve j e) a)
    (K : Act → World → Prop) (hK : Hid (∀ v e' w', v = w4g_V bX bA x ur um ud ue vr vm vd ve 3 e' → (∀ j, f j = true → w4g_V bX bA x ur um ud ue vr vm vd ve j e' = w4g_V bX bA x ur um ud ue vr vm vd ve j e) → w4g_J w1 bX bA x ur um ud ue vr vm vd ve (fun j => j == 3 || f j) e' w' → K (a.put w4g_o3.dst v) w')) :
    if Region.wanted w4g_o3 (yielded w4g_O a.tmps) = true then Oper.wp Tryd.prog w4g_o3 a w K Q else K (a.put w4g_o3.dst undef) w := by
  unfold w4g_o3 at hdep hK ⊢
  have hK9 := hK
  obtain ⟨hB, j2⟩ := hJ
  have k0 : f 0 = true := hdep { on := 0, ground := .data } (by simp) rfl
  have v40 : a.tmps.getD 40 undef = (.agg (mcA x ur um ud ue)) := hFr.new 0 40 rfl k0
  have k2 : f 2 = true := hdep { on := 2, ground := .data } (by simp) rfl
  have v42 : a.tmps.getD 42 undef = e := hFr.new 2 42 rfl k2
  have r2 := hid (j2 k2)
  replace hB := hid hB
  replace j2 := hid j2
  replace hT := hid hT
  replace hE := hid hE
  replace qX := hid qX
  replace qA := hid qA
  clear hdep hFr hx ha
  go_simp
  go_at_call 11
  refine (hE.out w _ hB.out r2.out).mono ?_
  rintro r w' ⟨rfl, hb'⟩
  replace hb' := hid hb'
  go_simp
  exact hK9.out _ e _ rfl (fun _ _ => rfl) ⟨new_trans hB.out hb'.out, fun h => (j2.out h).below hb'.out⟩
set_option maxRecDepth 100000 in
set_option maxHeartbeats 2000000 in
theorem w4g_s4 (A : Act) (w1 : World) (Q : Exit → Act → World → Prop) (bX bA : Nat) (x : Mc) (ur um ud ue vr vm vd ve : Value) 
    (hx : A.tmps.getD 8 undef = .pointer (some ⟨bX, 0, none⟩)) (ha : A.tmps.getD 3 undef = .pointer (some ⟨bA, 0, none⟩)) (qX : Blk w1 bX (mcA x ur um ud ue)) (qA : Blk w1 bA (mcA x vr vm vd ve)) (hT : ∀ W, Below w1.heap.size w1 W → Calls Tryd.prog 19 #[.agg (mcA x vr vm vd ve)] W fun r w' => ∃ v, r = .returned v ∧ MacB w' v x ∧ Below W.heap.size W w') (hE : ∀ W v, Below w1.heap.size w1 W → MacB W v x → Calls Tryd.prog 11 #[.agg (mcA x ur um ud ue), v] W fun r w' => r = .returned (.bool true) ∧ Below W.heap.size W w')
    (f : Nat → Bool) (e : Value) (a : Act) (w : World) (hun : f 4 = false) (hdep : ∀ d ∈ w4g_o4.after, Region.binds .any d = true → f d.on = true) (hJ : w4g_J w1 bX bA x ur um ud ue vr vm vd ve f e w) (hFr : Fr w4g_O A f (fun j => w4g_V bX bA x ur um ud ue vr vm vd ve j e) a)
    (K : Act → World → Prop) (hK : Hid (∀ v e' w', v = w4g_V bX bA x ur um ud ue vr vm vd ve 4 e' → (∀ j, f j = true → w4g_V bX bA x ur um ud ue vr vm vd ve j e' = w4g_V bX bA x ur um ud ue vr vm vd ve j e) → w4g_J w1 bX bA x ur um ud ue vr vm vd ve (fun j => j == 4 || f j) e' w' → K (a.put w4g_o4.dst v) w')) :
    if Region.wanted w4g_o4 (yielded w4g_O a.tmps) = true then Oper.wp Tryd.prog w4g_o4 a w K Q else K (a.put w4g_o4.dst undef) w := by
  unfold w4g_o4 at hdep hK ⊢
  have hK9 := hK
  obtain ⟨hB, j2⟩ := hJ
  have k3 : f 3 = true := hdep { on := 3, ground := .data } (by simp) rfl
  have v43 : a.tmps.getD 43 undef = .bool true := hFr.new 3 43 rfl k3
  replace hB := hid hB
  replace j2 := hid j2
  replace hT := hid hT
  replace hE := hid hE
  replace qX := hid qX
  replace qA := hid qA
  clear hdep hFr hx ha
  go_simp
  exact hK9.out _ e _ rfl (fun _ _ => rfl) ⟨hB.out, j2.out⟩
set_option maxRecDepth 100000 in
set_option maxHeartbeats 4000000 in
theorem w4g_reg (A : Act) (w1 : World) (Q : Exit → Act → World → Prop) (bX bA : Nat) (x : Mc) (ur um ud ue vr vm vd ve : Value) 
    (hx : A.tmps.getD 8 undef = .pointer (some ⟨bX, 0, none⟩)) (ha : A.tmps.getD 3 undef = .pointer (some ⟨bA, 0, none⟩)) (qX : Blk w1 bX (mcA x ur um ud ue)) (qA : Blk w1 bA (mcA x vr vm vd ve)) (hT : ∀ W, Below w1.heap.size w1 W → Calls Tryd.prog 19 #[.agg (mcA x vr vm vd ve)] W fun r w' => ∃ v, r = .returned v ∧ MacB w' v x ∧ Below W.heap.size W w') (hE : ∀ W v, Below w1.heap.size w1 W → MacB W v x → Calls Tryd.prog 11 #[.agg (mcA x ur um ud ue), v] W fun r w' => r = .returned (.bool true) ∧ Below W.heap.size W w') (hN : 45 ≤ A.tmps.size)
    (h : ∀ (w : World) (e : Value), Below w1.heap.size w1 w → Q .normal (putsA A [(40, (.agg (mcA x ur um ud ue))), (41, (.agg (mcA x vr vm vd ve))), (42, e), (43, .bool true), (44, .bool false)]) w) :
    (Code.region 16 #[({ dst := some 40, op := Op.load 41 (Operand.tmp 8), type := 41, pos := "exact.go:3407", after := #[], guard := none } : Oper), ({ dst := some 41, op := Op.load 58 (Operand.tmp 3), type := 58, pos := "exact.go:3407", after := #[], guard := none } : Oper), ({ dst := some 42, op := Op.call { callee := Callee.value (Operand.func 19), args := #[Operand.tmp 41], argTypes := #[58] }, type := 41, pos := "exact.go:3407", after := #[{ on := 1, ground := Ground.data }], guard := none } : Oper), ({ dst := some 43, op := Op.call { callee := Callee.value (Operand.func 11), args := #[Operand.tmp 40, Operand.tmp 42], argTypes := #[41, 41] }, type := 4, pos := "exact.go:3407", after := #[{ on := 0, ground := Ground.data }, { on := 2, ground := Ground.data }, { on := 2, ground := Ground.chain }], guard := none } : Oper), ({ dst := some 44, op := Op.unOp UnOp.not 4 (Operand.tmp 43), type := 4, pos := "exact.go:3407", after := #[{ on := 3, ground := Ground.data }], guard := none } : Oper)] true).wp Tryd.prog Q A w1 := by
  show (Code.region 16 w4g_O true).wp Tryd.prog Q A w1
  refine wp_region_slots (E := Value) (w4g_V bX bA x ur um ud ue vr vm vd ve) (w4g_J w1 bX bA x ur um ud ue vr vm vd ve) (by kernel_rfl) (by kernel_rfl) (by kernel_rfl) (fun i s hi => ?_) ?_ undef ⟨(Below.refl _ _).drew, fun h => (by cases h)⟩ ?_
  · cases hc : ([40, 41, 42, 43, 44] : List Nat).contains s
    · exact absurd hi (w4g_no hc i)
    · have : s ∈ ([40, 41, 42, 43, 44] : List Nat) := by simpa using hc
      simp only [List.mem_cons, List.not_mem_nil, or_false] at this
      omega
  · intro f e a w i o hi ho hun hdep hJ hFr K hK
    have hi8 : i < 5 := hi
    rcases (by omega : i = 0 ∨ i = 1 ∨ i = 2 ∨ i = 3 ∨ i = 4) with rfl | rfl | rfl | rfl | rfl
    · obtain rfl := Option.some.inj ho
      exact w4g_s0 A w1 Q bX bA x ur um ud ue vr vm vd ve hx ha qX qA hT hE f e a w hun hdep hJ hFr K hK
    · obtain rfl := Option.some.inj ho
      exact w4g_s1 A w1 Q bX bA x ur um ud ue vr vm vd ve hx ha qX qA hT hE f e a w hun hdep hJ hFr K hK
    · obtain rfl := Option.some.inj ho
      exact w4g_s2 A w1 Q bX bA x ur um ud ue vr vm vd ve hx ha qX qA hT hE f e a w hun hdep hJ hFr K hK
    · obtain rfl := Option.some.inj ho
      exact w4g_s3 A w1 Q bX bA x ur um ud ue vr vm vd ve hx ha qX qA hT hE f e a w hun hdep hJ hFr K hK
    · obtain rfl := Option.some.inj ho
      exact w4g_s4 A w1 Q bX bA x ur um ud ue vr vm vd ve hx ha qX qA hT hE f e a w hun hdep hJ hFr K hK
  · intro f e a w hall hJ hFr
    have := h w e hJ.1
    rw [hFr.eq [(40, (.agg (mcA x ur um ud ue))), (41, (.agg (mcA x vr vm vd ve))), (42, e), (43, .bool true), (44, .bool false)] (fun s hs => ?_) (fun i s hi => ?_)]
    · exact this
    · have hne : ∀ k ∈ ([40, 41, 42, 43, 44] : List Nat), k ≠ s := by
        intro k hk e2
        subst e2
        simp only [List.mem_cons, List.not_mem_nil, or_false] at hk
        rcases hk with rfl | rfl | rfl | rfl | rfl
        · exact hs 0 rfl
        · exact hs 1 rfl
        · exact hs 2 rfl
        · exact hs 3 rfl
        · exact hs 4 rfl
      simp only [lookA]
      simp [hne]
    · have hl : i < 5 := by
        rcases Nat.lt_or_ge i 5 with h1 | h1
        · exact h1
        · unfold dstAt at hi
          rw [Array.getElem?_eq_none (by exact h1)] at hi
          cases hi
      refine ⟨hall i hl, ?_⟩
      rcases (by omega : i = 0 ∨ i = 1 ∨ i = 2 ∨ i = 3 ∨ i = 4) with rfl | rfl | rfl | rfl | rfl
      all_goals first
        | (cases hi; rfl)
        | cases hi
end Go.Proofs.YtifcdojaocndhaaDoor
