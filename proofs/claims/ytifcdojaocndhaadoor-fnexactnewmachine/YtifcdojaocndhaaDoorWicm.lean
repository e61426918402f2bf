/- NewMachine, both sides. -/
import Derived.Test.YtifcdojaocndhaaDoorM30
import Derived.Test.YtifcdojaocndhaaDoorMnm
import Derived.Test.YtifcdojaocndhaaDoorBjm
import Derived.Test.YtifcdojaocndhaaDoorM34
import Derived.Test.YtifcdojaocndhaaDoorM40
import Derived.Test.YtifcdojaocndhaaDoorM04
import Derived.Test.YtifcdojaocndhaaDoorM08
import Derived.Test.YtifcdojaocndhaaDoorM10
namespace Go.Proofs.YtifcdojaocndhaaDoor
open Go.ChangeShapes Go.WideShapes Go.ChangeAt Go.RowKit
set_option linter.unusedVariables false
set_option linter.unusedSimpArgs false

def cuNew : Cu := ⟨0, 0, 0, 0, 0, 0, 0, 0, 0, 255, 0, false, false, false⟩
def nmX (M : Mem) (d : Dk) : Mc := ⟨cuNew, M, neP, neS, d, 0, 0, 0, ⟨#[]⟩, []⟩
theorem mc_oneV (x : Mc) {vr vm vd ve : Value} (h1 : vr.oneCell' = true) (h2 : vm.oneCell' = true) (h3 : vd.oneCell' = true) (h4 : ve.oneCell' = true) : (mcA x vr vm vd ve).all (·.oneCell') = true := by
  simp [mcA, Value.oneCell']
  exact ⟨h1, h2, h3, h4⟩
def ni_V (O b6 b8 : Nat) (M : Mem) (d : Dk) (vr vm vd : Value) : Nat → Value → Value := fun i e => match i with
  | 0 => cuV cuNew
  | 1 => .agg (mcC vr vm M).toArray
  | 2 => poV neP
  | 3 => sgV neS
  | 4 => .agg (dkL vd d).toArray
  | 5 => (.agg (mcA (nmX M d) vr vm vd nlV))
  | 7 => .int .i64 0
  | _ => undef
def ni_J (w1 : World) (O b6 b8 : Nat) (M : Mem) (d : Dk) (vr vm vd : Value) (f : Nat → Bool) (e : Value) (w : World) : Prop :=
  OutD (fun b => b = O) w1 w ∧ (if f 6 = true then Blk w O (mcA (nmX M d) vr vm vd nlV) else Blk w O mcZ)
def ni_o0 : Oper := ({ dst := some 36, op := Op.call { callee := Callee.value (Operand.func 32), args := #[], argTypes := #[] }, type := 26, pos := "l14_machine.go:377", after := #[], guard := none } : Oper)
def ni_o1 : Oper := ({ dst := some 37, op := Op.load 30 (Operand.tmp 6), type := 30, pos := "l14_machine.go:377", after := #[], guard := none } : Oper)
def ni_o2 : Oper := ({ dst := some 38, op := Op.call { callee := Callee.value (Operand.func 33), args := #[], argTypes := #[] }, type := 32, pos := "l14_machine.go:377", after := #[{ on := 0, ground := Ground.chain }], guard := none } : Oper)
def ni_o3 : Oper := ({ dst := some 39, op := Op.call { callee := Callee.value (Operand.func 34), args := #[], argTypes := #[] }, type := 36, pos := "l14_machine.go:377", after := #[{ on := 2, ground := Ground.chain }], guard := none } : Oper)
def ni_o4 : Oper := ({ dst := some 40, op := Op.load 38 (Operand.tmp 8), type := 38, pos := "l14_machine.go:377", after := #[], guard := none } : Oper)
def ni_o5 : Oper := ({ dst := some 41, op := Op.build 41 #[(0, Operand.tmp 36), (1, Operand.tmp 37), (2, Operand.tmp 38), (3, Operand.tmp 39), (4, Operand.tmp 40)], type := 41, pos := "l14_machine.go:377", after := #[{ on := 0, ground := Ground.data }, { on := 1, ground := Ground.data }, { on := 2, ground := Ground.data }, { on := 3, ground := Ground.data }, { on := 4, ground := Ground.data }], guard := none } : Oper)
def ni_o6 : Oper := ({ dst := none, op := Op.store 41 (Operand.tmp 4) (Operand.tmp 41), type := 0, pos := "l14_machine.go:377", after := #[{ on := 5, ground := Ground.data }, { on := 3, ground := Ground.chain }, { on := 0, ground := Ground.phase }, { on := 1, ground := Ground.phase }, { on := 2, ground := Ground.phase }, { on := 3, ground := Ground.phase }, { on := 4, ground := Ground.phase }, { on := 5, ground := Ground.phase }], guard := none } : Oper)
def ni_o7 : Oper := ({ dst := some 5, op := Op.assign (Operand.const (Value.int IntKind.i64 0)), type := 3, pos := "l14_machine.go:377", after := #[{ on := 6, ground := Ground.chain }, { on := 0, ground := Ground.phase }, { on := 1, ground := Ground.phase }, { on := 2, ground := Ground.phase }, { on := 3, ground := Ground.phase }, { on := 4, ground := Ground.phase }, { on := 5, ground := Ground.phase }, { on := 6, ground := Ground.phase }], guard := none } : Oper)
def ni_O : Array Oper := #[ni_o0, ni_o1, ni_o2, ni_o3, ni_o4, ni_o5, ni_o6, ni_o7]
theorem ni_no {s : Nat} (h : ([36, 37, 38, 39, 40, 41, 5] : List Nat).contains s = false) : ∀ i, dstAt ni_O i ≠ some s := by
  intro i hi
  have hl : i < 8 := by
    rcases Nat.lt_or_ge i 8 with h1 | h1
    · exact h1
    · unfold dstAt at hi
      rw [Array.getElem?_eq_none (by exact h1)] at hi
      cases hi
  rcases (by omega : i = 0 ∨ i = 1 ∨ i = 2 ∨ i = 3 ∨ i = 4 ∨ i = 5 ∨ i = 6 ∨ i = 7) with rfl | rfl | rfl | rfl | rfl | rfl | rfl | rfl
  all_goals first
    | (cases hi; simp at h)
    | cases hi
set_option maxRecDepth 100000 in
set_option maxHeartbeats 2000000 in
theorem ni_s0 (A : Act) (w1 : World) (Q : Exit → Act → World → Prop) (O b6 b8 : Nat) (M : Mem) (d : Dk) (vr vm vd : Value) 
    (h4 : A.tmps.getD 4 undef = .pointer (some ⟨O, 0, none⟩)) (h6 : A.tmps.getD 6 undef = .pointer (some ⟨b6, 0, none⟩)) (h8 : A.tmps.getD 8 undef = .pointer (some ⟨b8, 0, none⟩)) (qO : Blk w1 O mcZ) (q6 : Blk w1 b6 (mcC vr vm M).toArray) (q8 : Blk w1 b8 (dkL vd d).toArray) (n6 : b6 ≠ O) (n8 : b8 ≠ O) (o1 : vr.oneCell' = true) (o2 : vm.oneCell' = true) (o3 : vd.oneCell' = true) (hC : (∀ W, OutD (fun b => b = O) w1 W → Calls Tryd.prog 32 #[] W fun r w' => r = .returned (cuV cuNew) ∧ Below W.heap.size W w')) (hP : (∀ W, OutD (fun b => b = O) w1 W → Calls Tryd.prog 33 #[] W fun r w' => r = .returned (poV neP) ∧ Below W.heap.size W w')) (hS : (∀ W, OutD (fun b => b = O) w1 W → Calls Tryd.prog 34 #[] W fun r w' => r = .returned (sgV neS) ∧ Below W.heap.size W w'))
    (f : Nat → Bool) (e : Value) (a : Act) (w : World) (hun : f 0 = false) (hdep : ∀ d ∈ ni_o0.after, Region.binds .any d = true → f d.on = true) (hJ : ni_J w1 O b6 b8 M d vr vm vd f e w) (hFr : Fr ni_O A f (fun j => ni_V O b6 b8 M d vr vm vd j e) a)
    (K : Act → World → Prop) (hK : Hid (∀ v e' w', v = ni_V O b6 b8 M d vr vm vd 0 e' → (∀ j, f j = true → ni_V O b6 b8 M d vr vm vd j e' = ni_V O b6 b8 M d vr vm vd j e) → ni_J w1 O b6 b8 M d vr vm vd (fun j => j == 0 || f j) e' w' → K (a.put ni_o0.dst v) w')) :
    if Region.wanted ni_o0 (yielded ni_O a.tmps) = true then Oper.wp Tryd.prog ni_o0 a w K Q else K (a.put ni_o0.dst undef) w := by
  unfold ni_o0 at hdep hK ⊢
  have hK9 := hK
  obtain ⟨hB, jO⟩ := hJ
  replace hB := hid hB
  replace jO := hid jO
  replace hC := hid hC
  replace hP := hid hP
  replace hS := hid hS
  replace qO := hid qO
  replace q6 := hid q6
  replace q8 := hid q8
  clear hdep hFr h4 h6 h8
  go_simp
  go_at_call 32
  refine (hC.out w hB.out).mono ?_
  rintro r w' ⟨rfl, hb'⟩
  replace hb' := hid hb'
  have jN : (if f 6 = true then Blk w' O (mcA (nmX M d) vr vm vd nlV) else Blk w' O mcZ) := by
    have jo := jO.out
    cases hf : f 6
    · rw [hf] at jo
      exact Blk.below jo hb'.out jo.lt
    · rw [hf] at jo
      exact Blk.below jo hb'.out jo.lt
  replace jN := hid jN
  go_simp
  exact hK9.out _ e _ rfl (fun _ _ => rfl) ⟨hB.out.trans (OutD.of_below hb'.out), jN.out⟩
set_option maxRecDepth 100000 in
set_option maxHeartbeats 2000000 in
theorem ni_s1 (A : Act) (w1 : World) (Q : Exit → Act → World → Prop) (O b6 b8 : Nat) (M : Mem) (d : Dk) (vr vm vd : Value) 
    (h4 : A.tmps.getD 4 undef = .pointer (some ⟨O, 0, none⟩)) (h6 : A.tmps.getD 6 undef = .pointer (some ⟨b6, 0, none⟩)) (h8 : A.tmps.getD 8 undef = .pointer (some ⟨b8, 0, none⟩)) (qO : Blk w1 O mcZ) (q6 : Blk w1 b6 (mcC vr vm M).toArray) (q8 : Blk w1 b8 (dkL vd d).toArray) (n6 : b6 ≠ O) (n8 : b8 ≠ O) (o1 : vr.oneCell' = true) (o2 : vm.oneCell' = true) (o3 : vd.oneCell' = true) (hC : (∀ W, OutD (fun b => b = O) w1 W → Calls Tryd.prog 32 #[] W fun r w' => r = .returned (cuV cuNew) ∧ Below W.heap.size W w')) (hP : (∀ W, OutD (fun b => b = O) w1 W → Calls Tryd.prog 33 #[] W fun r w' => r = .returned (poV neP) ∧ Below W.heap.size W w')) (hS : (∀ W, OutD (fun b => b = O) w1 W → Calls Tryd.prog 34 #[] W fun r w' => r = .returned (sgV neS) ∧ Below W.heap.size W w'))
    (f : Nat → Bool) (e : Value) (a : Act) (w : World) (hun : f 1 = false) (hdep : ∀ d ∈ ni_o1.after, Region.binds .any d = true → f d.on = true) (hJ : ni_J w1 O b6 b8 M d vr vm vd f e w) (hFr : Fr ni_O A f (fun j => ni_V O b6 b8 M d vr vm vd j e) a)
    (K : Act → World → Prop) (hK : Hid (∀ v e' w', v = ni_V O b6 b8 M d vr vm vd 1 e' → (∀ j, f j = true → ni_V O b6 b8 M d vr vm vd j e' = ni_V O b6 b8 M d vr vm vd j e) → ni_J w1 O b6 b8 M d vr vm vd (fun j => j == 1 || f j) e' w' → K (a.put ni_o1.dst v) w')) :
    if Region.wanted ni_o1 (yielded ni_O a.tmps) = true then Oper.wp Tryd.prog ni_o1 a w K Q else K (a.put ni_o1.dst undef) w := by
  unfold ni_o1 at hdep hK ⊢
  have hK9 := hK
  obtain ⟨hB, jO⟩ := hJ
  have v6 := (hFr.old 6 (ni_no (by decide))).trans h6
  have x0 : w.rangeAt b6 0 (mcC vr vm M) := rng_of (q6.outD hB n6) [] _ [] (by simp)
  rw [if_pos (show Region.wanted _ _ = true from rfl)]
  refine wp_load_mid 30 _ rfl b6 0 v6 (mcC vr vm M) _ x0 Tryd.underlying30 rfl (szMe _ _ _) ?_
  exact hK9.out _ e _ rfl (fun _ _ => rfl) ⟨hB, jO⟩
set_option maxRecDepth 100000 in
set_option maxHeartbeats 2000000 in
theorem ni_s2 (A : Act) (w1 : World) (Q : Exit → Act → World → Prop) (O b6 b8 : Nat) (M : Mem) (d : Dk) (vr vm vd : Value) 
    (h4 : A.tmps.getD 4 undef = .pointer (some ⟨O, 0, none⟩)) (h6 : A.tmps.getD 6 undef = .pointer (some ⟨b6, 0, none⟩)) (h8 : A.tmps.getD 8 undef = .pointer (some ⟨b8, 0, none⟩)) (qO : Blk w1 O mcZ) (q6 : Blk w1 b6 (mcC vr vm M).toArray) (q8 : Blk w1 b8 (dkL vd d).toArray) (n6 : b6 ≠ O) (n8 : b8 ≠ O) (o1 : vr.oneCell' = true) (o2 : vm.oneCell' = true) (o3 : vd.oneCell' = true) (hC : (∀ W, OutD (fun b => b = O) w1 W → Calls Tryd.prog 32 #[] W fun r w' => r = .returned (cuV cuNew) ∧ Below W.heap.size W w')) (hP : (∀ W, OutD (fun b => b = O) w1 W → Calls Tryd.prog 33 #[] W fun r w' => r = .returned (poV neP) ∧ Below W.heap.size W w')) (hS : (∀ W, OutD (fun b => b = O) w1 W → Calls Tryd.prog 34 #[] W fun r w' => r = .returned (sgV neS) ∧ Below W.heap.size W w'))
    (f : Nat → Bool) (e : Value) (a : Act) (w : World) (hun : f 2 = false) (hdep : ∀ d ∈ ni_o2.after, Region.binds .any d = true → f d.on = true) (hJ : ni_J w1 O b6 b8 M d vr vm vd f e w) (hFr : Fr ni_O A f (fun j => ni_V O b6 b8 M d vr vm vd j e) a)
    (K : Act → World → Prop) (hK : Hid (∀ v e' w', v = ni_V O b6 b8 M d vr vm vd 2 e' → (∀ j, f j = true → ni_V O b6 b8 M d vr vm vd j e' = ni_V O b6 b8 M d vr vm vd j e) → ni_J w1 O b6 b8 M d vr vm vd (fun j => j == 2 || f j) e' w' → K (a.put ni_o2.dst v) w')) :
    if Region.wanted ni_o2 (yielded ni_O a.tmps) = true then Oper.wp Tryd.prog ni_o2 a w K Q else K (a.put ni_o2.dst undef) w := by
  unfold ni_o2 at hdep hK ⊢
  have hK9 := hK
  obtain ⟨hB, jO⟩ := hJ
  replace hB := hid hB
  replace jO := hid jO
  replace hC := hid hC
  replace hP := hid hP
  replace hS := hid hS
  replace qO := hid qO
  replace q6 := hid q6
  replace q8 := hid q8
  clear hdep hFr h4 h6 h8
  go_simp
  go_at_call 33
  refine (hP.out w hB.out).mono ?_
  rintro r w' ⟨rfl, hb'⟩
  replace hb' := hid hb'
  have jN : (if f 6 = true then Blk w' O (mcA (nmX M d) vr vm vd nlV) else Blk w' O mcZ) := by
    have jo := jO.out
    cases hf : f 6
    · rw [hf] at jo
      exact Blk.below jo hb'.out jo.lt
    · rw [hf] at jo
      exact Blk.below jo hb'.out jo.lt
  replace jN := hid jN
  go_simp
  exact hK9.out _ e _ rfl (fun _ _ => rfl) ⟨hB.out.trans (OutD.of_below hb'.out), jN.out⟩
set_option maxRecDepth 100000 in
set_option maxHeartbeats 2000000 in
theorem ni_s3 (A : Act) (w1 : World) (Q : Exit → Act → World → Prop) (O b6 b8 : Nat) (M : Mem) (d : Dk) (vr vm vd : Value) 
    (h4 : A.tmps.getD 4 undef = .pointer (some ⟨O, 0, none⟩)) (h6 : A.tmps.getD 6 undef = .pointer (some ⟨b6, 0, none⟩)) (h8 : A.tmps.getD 8 undef = .pointer (some ⟨b8, 0, none⟩)) (qO : Blk w1 O mcZ) (q6 : Blk w1 b6 (mcC vr vm M).toArray) (q8 : Blk w1 b8 (dkL vd d).toArray) (n6 : b6 ≠ O) (n8 : b8 ≠ O) (o1 : vr.oneCell' = true) (o2 : vm.oneCell' = true) (o3 : vd.oneCell' = true) (hC : (∀ W, OutD (fun b => b = O) w1 W → Calls Tryd.prog 32 #[] W fun r w' => r = .returned (cuV cuNew) ∧ Below W.heap.size W w')) (hP : (∀ W, OutD (fun b => b = O) w1 W → Calls Tryd.prog 33 #[] W fun r w' => r = .returned (poV neP) ∧ Below W.heap.size W w')) (hS : (∀ W, OutD (fun b => b = O) w1 W → Calls Tryd.prog 34 #[] W fun r w' => r = .returned (sgV neS) ∧ Below W.heap.size W w'))
    (f : Nat → Bool) (e : Value) (a : Act) (w : World) (hun : f 3 = false) (hdep : ∀ d ∈ ni_o3.after, Region.binds .any d = true → f d.on = true) (hJ : ni_J w1 O b6 b8 M d vr vm vd f e w) (hFr : Fr ni_O A f (fun j => ni_V O b6 b8 M d vr vm vd j e) a)
    (K : Act → World → Prop) (hK : Hid (∀ v e' w', v = ni_V O b6 b8 M d vr vm vd 3 e' → (∀ j, f j = true → ni_V O b6 b8 M d vr vm vd j e' = ni_V O b6 b8 M d vr vm vd j e) → ni_J w1 O b6 b8 M d vr vm vd (fun j => j == 3 || f j) e' w' → K (a.put ni_o3.dst v) w')) :
    if Region.wanted ni_o3 (yielded ni_O a.tmps) = true then Oper.wp Tryd.prog ni_o3 a w K Q else K (a.put ni_o3.dst undef) w := by
  unfold ni_o3 at hdep hK ⊢
  have hK9 := hK
  obtain ⟨hB, jO⟩ := hJ
  replace hB := hid hB
  replace jO := hid jO
  replace hC := hid hC
  replace hP := hid hP
  replace hS := hid hS
  replace qO := hid qO
  replace q6 := hid q6
  replace q8 := hid q8
  clear hdep hFr h4 h6 h8
  go_simp
  go_at_call 34
  refine (hS.out w hB.out).mono ?_
  rintro r w' ⟨rfl, hb'⟩
  replace hb' := hid hb'
  have jN : (if f 6 = true then Blk w' O (mcA (nmX M d) vr vm vd nlV) else Blk w' O mcZ) := by
    have jo := jO.out
    cases hf : f 6
    · rw [hf] at jo
      exact Blk.below jo hb'.out jo.lt
    · rw [hf] at jo
      exact Blk.below jo hb'.out jo.lt
  replace jN := hid jN
  go_simp
  exact hK9.out _ e _ rfl (fun _ _ => rfl) ⟨hB.out.trans (OutD.of_below hb'.out), jN.out⟩
set_option maxRecDepth 100000 in
set_option maxHeartbeats 2000000 in
theorem ni_s4 (A : Act) (w1 : World) (Q : Exit → Act → World → Prop) (O b6 b8 : Nat) (M : Mem) (d : Dk) (vr vm vd : Value) 
    (h4 : A.tmps.getD 4 undef = .pointer (some ⟨O, 0, none⟩)) (h6 : A.tmps.getD 6 undef = .pointer (some ⟨b6, 0, none⟩)) (h8 : A.tmps.getD 8 undef = .pointer (some ⟨b8, 0, none⟩)) (qO : Blk w1 O mcZ) (q6 : Blk w1 b6 (mcC vr vm M).toArray) (q8 : Blk w1 b8 (dkL vd d).toArray) (n6 : b6 ≠ O) (n8 : b8 ≠ O) (o1 : vr.oneCell' = true) (o2 : vm.oneCell' = true) (o3 : vd.oneCell' = true) (hC : (∀ W, OutD (fun b => b = O) w1 W → Calls Tryd.prog 32 #[] W fun r w' => r = .returned (cuV cuNew) ∧ Below W.heap.size W w')) (hP : (∀ W, OutD (fun b => b = O) w1 W → Calls Tryd.prog 33 #[] W fun r w' => r = .returned (poV neP) ∧ Below W.heap.size W w')) (hS : (∀ W, OutD (fun b => b = O) w1 W → Calls Tryd.prog 34 #[] W fun r w' => r = .returned (sgV neS) ∧ Below W.heap.size W w'))
    (f : Nat → Bool) (e : Value) (a : Act) (w : World) (hun : f 4 = false) (hdep : ∀ d ∈ ni_o4.after, Region.binds .any d = true → f d.on = true) (hJ : ni_J w1 O b6 b8 M d vr vm vd f e w) (hFr : Fr ni_O A f (fun j => ni_V O b6 b8 M d vr vm vd j e) a)
    (K : Act → World → Prop) (hK : Hid (∀ v e' w', v = ni_V O b6 b8 M d vr vm vd 4 e' → (∀ j, f j = true → ni_V O b6 b8 M d vr vm vd j e' = ni_V O b6 b8 M d vr vm vd j e) → ni_J w1 O b6 b8 M d vr vm vd (fun j => j == 4 || f j) e' w' → K (a.put ni_o4.dst v) w')) :
    if Region.wanted ni_o4 (yielded ni_O a.tmps) = true then Oper.wp Tryd.prog ni_o4 a w K Q else K (a.put ni_o4.dst undef) w := by
  unfold ni_o4 at hdep hK ⊢
  have hK9 := hK
  obtain ⟨hB, jO⟩ := hJ
  have v8 := (hFr.old 8 (ni_no (by decide))).trans h8
  have x0 : w.rangeAt b8 0 (dkL vd d) := rng_of (q8.outD hB n8) [] _ [] (by simp)
  rw [if_pos (show Region.wanted _ _ = true from rfl)]
  refine wp_load_mid 38 _ rfl b8 0 v8 (dkL vd d) _ x0 Tryd.underlying38 rfl (szDk _ _) ?_
  exact hK9.out _ e _ rfl (fun _ _ => rfl) ⟨hB, jO⟩
set_option maxRecDepth 100000 in
set_option maxHeartbeats 2000000 in
theorem ni_s5 (A : Act) (w1 : World) (Q : Exit → Act → World → Prop) (O b6 b8 : Nat) (M : Mem) (d : Dk) (vr vm vd : Value) 
    (h4 : A.tmps.getD 4 undef = .pointer (some ⟨O, 0, none⟩)) (h6 : A.tmps.getD 6 undef = .pointer (some ⟨b6, 0, none⟩)) (h8 : A.tmps.getD 8 undef = .pointer (some ⟨b8, 0, none⟩)) (qO : Blk w1 O mcZ) (q6 : Blk w1 b6 (mcC vr vm M).toArray) (q8 : Blk w1 b8 (dkL vd d).toArray) (n6 : b6 ≠ O) (n8 : b8 ≠ O) (o1 : vr.oneCell' = true) (o2 : vm.oneCell' = true) (o3 : vd.oneCell' = true) (hC : (∀ W, OutD (fun b => b = O) w1 W → Calls Tryd.prog 32 #[] W fun r w' => r = .returned (cuV cuNew) ∧ Below W.heap.size W w')) (hP : (∀ W, OutD (fun b => b = O) w1 W → Calls Tryd.prog 33 #[] W fun r w' => r = .returned (poV neP) ∧ Below W.heap.size W w')) (hS : (∀ W, OutD (fun b => b = O) w1 W → Calls Tryd.prog 34 #[] W fun r w' => r = .returned (sgV neS) ∧ Below W.heap.size W w'))
    (f : Nat → Bool) (e : Value) (a : Act) (w : World) (hun : f 5 = false) (hdep : ∀ d ∈ ni_o5.after, Region.binds .any d = true → f d.on = true) (hJ : ni_J w1 O b6 b8 M d vr vm vd f e w) (hFr : Fr ni_O A f (fun j => ni_V O b6 b8 M d vr vm vd j e) a)
    (K : Act → World → Prop) (hK : Hid (∀ v e' w', v = ni_V O b6 b8 M d vr vm vd 5 e' → (∀ j, f j = true → ni_V O b6 b8 M d vr vm vd j e' = ni_V O b6 b8 M d vr vm vd j e) → ni_J w1 O b6 b8 M d vr vm vd (fun j => j == 5 || f j) e' w' → K (a.put ni_o5.dst v) w')) :
    if Region.wanted ni_o5 (yielded ni_O a.tmps) = true then Oper.wp Tryd.prog ni_o5 a w K Q else K (a.put ni_o5.dst undef) w := by
  unfold ni_o5 at hdep hK ⊢
  have hK9 := hK
  obtain ⟨hB, jO⟩ := hJ
  have k0 : f 0 = true := hdep { on := 0, ground := .data } (by simp) rfl
  have v36 : a.tmps.getD 36 undef = cuV cuNew := hFr.new 0 36 rfl k0
  rw [Array.getD_eq_getD_getElem?] at v36
  have k1 : f 1 = true := hdep { on := 1, ground := .data } (by simp) rfl
  have v37 : a.tmps.getD 37 undef = .agg (mcC vr vm M).toArray := hFr.new 1 37 rfl k1
  rw [Array.getD_eq_getD_getElem?] at v37
  have k2 : f 2 = true := hdep { on := 2, ground := .data } (by simp) rfl
  have v38 : a.tmps.getD 38 undef = poV neP := hFr.new 2 38 rfl k2
  rw [Array.getD_eq_getD_getElem?] at v38
  have k3 : f 3 = true := hdep { on := 3, ground := .data } (by simp) rfl
  have v39 : a.tmps.getD 39 undef = sgV neS := hFr.new 3 39 rfl k3
  rw [Array.getD_eq_getD_getElem?] at v39
  have k4 : f 4 = true := hdep { on := 4, ground := .data } (by simp) rfl
  have v40 : a.tmps.getD 40 undef = .agg (dkL vd d).toArray := hFr.new 4 40 rfl k4
  rw [Array.getD_eq_getD_getElem?] at v40
  replace hB := hid hB
  replace jO := hid jO
  replace hC := hid hC
  replace hP := hid hP
  replace hS := hid hS
  replace qO := hid qO
  replace q6 := hid q6
  replace q8 := hid q8
  clear hdep hFr h4 h6 h8
  go_simp
  exact hK9.out _ e _ rfl (fun _ _ => rfl) ⟨hB.out, jO.out⟩
set_option maxRecDepth 100000 in
set_option maxHeartbeats 2000000 in
theorem ni_s6 (A : Act) (w1 : World) (Q : Exit → Act → World → Prop) (O b6 b8 : Nat) (M : Mem) (d : Dk) (vr vm vd : Value) 
    (h4 : A.tmps.getD 4 undef = .pointer (some ⟨O, 0, none⟩)) (h6 : A.tmps.getD 6 undef = .pointer (some ⟨b6, 0, none⟩)) (h8 : A.tmps.getD 8 undef = .pointer (some ⟨b8, 0, none⟩)) (qO : Blk w1 O mcZ) (q6 : Blk w1 b6 (mcC vr vm M).toArray) (q8 : Blk w1 b8 (dkL vd d).toArray) (n6 : b6 ≠ O) (n8 : b8 ≠ O) (o1 : vr.oneCell' = true) (o2 : vm.oneCell' = true) (o3 : vd.oneCell' = true) (hC : (∀ W, OutD (fun b => b = O) w1 W → Calls Tryd.prog 32 #[] W fun r w' => r = .returned (cuV cuNew) ∧ Below W.heap.size W w')) (hP : (∀ W, OutD (fun b => b = O) w1 W → Calls Tryd.prog 33 #[] W fun r w' => r = .returned (poV neP) ∧ Below W.heap.size W w')) (hS : (∀ W, OutD (fun b => b = O) w1 W → Calls Tryd.prog 34 #[] W fun r w' => r = .returned (sgV neS) ∧ Below W.heap.size W w'))
    (f : Nat → Bool) (e : Value) (a : Act) (w : World) (hun : f 6 = false) (hdep : ∀ d ∈ ni_o6.after, Region.binds .any d = true → f d.on = true) (hJ : ni_J w1 O b6 b8 M d vr vm vd f e w) (hFr : Fr ni_O A f (fun j => ni_V O b6 b8 M d vr vm vd j e) a)
    (K : Act → World → Prop) (hK : Hid (∀ v e' w', v = ni_V O b6 b8 M d vr vm vd 6 e' → (∀ j, f j = true → ni_V O b6 b8 M d vr vm vd j e' = ni_V O b6 b8 M d vr vm vd j e) → ni_J w1 O b6 b8 M d vr vm vd (fun j => j == 6 || f j) e' w' → K (a.put ni_o6.dst v) w')) :
    if Region.wanted ni_o6 (yielded ni_O a.tmps) = true then Oper.wp Tryd.prog ni_o6 a w K Q else K (a.put ni_o6.dst undef) w := by
  unfold ni_o6 at hdep hK ⊢
  have hK9 := hK
  obtain ⟨hB, jO⟩ := hJ
  have k5 : f 5 = true := hdep { on := 5, ground := .data } (by simp) rfl
  have v41 : a.tmps.getD 41 undef = (.agg (mcA (nmX M d) vr vm vd nlV)) := hFr.new 5 41 rfl k5
  have v4 := (hFr.old 4 (ni_no (by decide))).trans h4
  rw [hun] at jO
  have jZ : Blk w O mcZ := jO
  rw [if_pos (show Region.wanted _ _ = true from rfl)]
  have h1 : (mcA (nmX M d) vr vm vd nlV).all (·.oneCell') = true := mc_oneV (nmX M d) o1 o2 o3 rfl
  refine wp_store_mid 41 _ _ rfl O 0 (mcA (nmX M d) vr vm vd nlV) v4 v41 (mc_there jZ (by show 0 + 58 ≤ 58; omega)) (szMcA _ _ _ _ _) h1 ?_
  have jn : Blk (w.setCells O 0 (mcA (nmX M d) vr vm vd nlV).toList) O (mcA (nmX M d) vr vm vd nlV) := by
    rw [mcZ_eq] at jZ
    have := lay_blk O (mcA (nmX M d) vr vm vd nlV).toList w 0 _ jZ
    rw [mlay_x] at this
    exact this
  have ho : OutD (fun b => b = O) w (w.setCells O 0 (mcA (nmX M d) vr vm vd nlV).toList) := ⟨(lay_os O _ 0 w).1, (lay_os O _ 0 w).2.1, (lay_os O _ 0 w).2.2, by rw [lay_size]; exact Nat.le_refl _, fun b hb hn => lay_heap O _ 0 w hn⟩
  exact hK9.out _ e _ rfl (fun _ _ => rfl) ⟨hB.trans ho, jn⟩
set_option maxRecDepth 100000 in
set_option maxHeartbeats 2000000 in
theorem ni_s7 (A : Act) (w1 : World) (Q : Exit → Act → World → Prop) (O b6 b8 : Nat) (M : Mem) (d : Dk) (vr vm vd : Value) 
    (h4 : A.tmps.getD 4 undef = .pointer (some ⟨O, 0, none⟩)) (h6 : A.tmps.getD 6 undef = .pointer (some ⟨b6, 0, none⟩)) (h8 : A.tmps.getD 8 undef = .pointer (some ⟨b8, 0, none⟩)) (qO : Blk w1 O mcZ) (q6 : Blk w1 b6 (mcC vr vm M).toArray) (q8 : Blk w1 b8 (dkL vd d).toArray) (n6 : b6 ≠ O) (n8 : b8 ≠ O) (o1 : vr.oneCell' = true) (o2 : vm.oneCell' = true) (o3 : vd.oneCell' = true) (hC : (∀ W, OutD (fun b => b = O) w1 W → Calls Tryd.prog 32 #[] W fun r w' => r = .returned (cuV cuNew) ∧ Below W.heap.size W w')) (hP : (∀ W, OutD (fun b => b = O) w1 W → Calls Tryd.prog 33 #[] W fun r w' => r = .returned (poV neP) ∧ Below W.heap.size W w')) (hS : (∀ W, OutD (fun b => b = O) w1 W → Calls Tryd.prog 34 #[] W fun r w' => r = .returned (sgV neS) ∧ Below W.heap.size W w'))
    (f : Nat → Bool) (e : Value) (a : Act) (w : World) (hun : f 7 = false) (hdep : ∀ d ∈ ni_o7.after, Region.binds .any d = true → f d.on = true) (hJ : ni_J w1 O b6 b8 M d vr vm vd f e w) (hFr : Fr ni_O A f (fun j => ni_V O b6 b8 M d vr vm vd j e) a)
    (K : Act → World → Prop) (hK : Hid (∀ v e' w', v = ni_V O b6 b8 M d vr vm vd 7 e' → (∀ j, f j = true → ni_V O b6 b8 M d vr vm vd j e' = ni_V O b6 b8 M d vr vm vd j e) → ni_J w1 O b6 b8 M d vr vm vd (fun j => j == 7 || f j) e' w' → K (a.put ni_o7.dst v) w')) :
    if Region.wanted ni_o7 (yielded ni_O a.tmps) = true then Oper.wp Tryd.prog ni_o7 a w K Q else K (a.put ni_o7.dst undef) w := by
  unfold ni_o7 at hdep hK ⊢
  have hK9 := hK
  obtain ⟨hB, jO⟩ := hJ
  replace hB := hid hB
  replace jO := hid jO
  replace hC := hid hC
  replace hP := hid hP
  replace hS := hid hS
  replace qO := hid qO
  replace q6 := hid q6
  replace q8 := hid q8
  clear hdep hFr h4 h6 h8
  go_simp
  exact hK9.out _ e _ rfl (fun _ _ => rfl) ⟨hB.out, jO.out⟩
set_option maxRecDepth 100000 in
set_option maxHeartbeats 4000000 in
theorem ni_reg (A : Act) (w1 : World) (Q : Exit → Act → World → Prop) (O b6 b8 : Nat) (M : Mem) (d : Dk) (vr vm vd : Value) 
    (h4 : A.tmps.getD 4 undef = .pointer (some ⟨O, 0, none⟩)) (h6 : A.tmps.getD 6 undef = .pointer (some ⟨b6, 0, none⟩)) (h8 : A.tmps.getD 8 undef = .pointer (some ⟨b8, 0, none⟩)) (qO : Blk w1 O mcZ) (q6 : Blk w1 b6 (mcC vr vm M).toArray) (q8 : Blk w1 b8 (dkL vd d).toArray) (n6 : b6 ≠ O) (n8 : b8 ≠ O) (o1 : vr.oneCell' = true) (o2 : vm.oneCell' = true) (o3 : vd.oneCell' = true) (hC : (∀ W, OutD (fun b => b = O) w1 W → Calls Tryd.prog 32 #[] W fun r w' => r = .returned (cuV cuNew) ∧ Below W.heap.size W w')) (hP : (∀ W, OutD (fun b => b = O) w1 W → Calls Tryd.prog 33 #[] W fun r w' => r = .returned (poV neP) ∧ Below W.heap.size W w')) (hS : (∀ W, OutD (fun b => b = O) w1 W → Calls Tryd.prog 34 #[] W fun r w' => r = .returned (sgV neS) ∧ Below W.heap.size W w')) (hN : 42 ≤ A.tmps.size)
    (h : ∀ (w : World) (e : Value), OutD (fun b => b = O) w1 w → Blk w O (mcA (nmX M d) vr vm vd nlV) → Q .normal (putsA A [(36, cuV cuNew), (37, .agg (mcC vr vm M).toArray), (38, poV neP), (39, sgV neS), (40, .agg (dkL vd d).toArray), (41, (.agg (mcA (nmX M d) vr vm vd nlV))), (5, .int .i64 0)]) w) :
    (Code.region 9 #[({ dst := some 36, op := Op.call { callee := Callee.value (Operand.func 32), args := #[], argTypes := #[] }, type := 26, pos := "l14_machine.go:377", after := #[], guard := none } : Oper), ({ dst := some 37, op := Op.load 30 (Operand.tmp 6), type := 30, pos := "l14_machine.go:377", after := #[], guard := none } : Oper), ({ dst := some 38, op := Op.call { callee := Callee.value (Operand.func 33), args := #[], argTypes := #[] }, type := 32, pos := "l14_machine.go:377", after := #[{ on := 0, ground := Ground.chain }], guard := none } : Oper), ({ dst := some 39, op := Op.call { callee := Callee.value (Operand.func 34), args := #[], argTypes := #[] }, type := 36, pos := "l14_machine.go:377", after := #[{ on := 2, ground := Ground.chain }], guard := none } : Oper), ({ dst := some 40, op := Op.load 38 (Operand.tmp 8), type := 38, pos := "l14_machine.go:377", after := #[], guard := none } : Oper), ({ dst := some 41, op := Op.build 41 #[(0, Operand.tmp 36), (1, Operand.tmp 37), (2, Operand.tmp 38), (3, Operand.tmp 39), (4, Operand.tmp 40)], type := 41, pos := "l14_machine.go:377", after := #[{ on := 0, ground := Ground.data }, { on := 1, ground := Ground.data }, { on := 2, ground := Ground.data }, { on := 3, ground := Ground.data }, { on := 4, ground := Ground.data }], guard := none } : Oper), ({ dst := none, op := Op.store 41 (Operand.tmp 4) (Operand.tmp 41), type := 0, pos := "l14_machine.go:377", after := #[{ on := 5, ground := Ground.data }, { on := 3, ground := Ground.chain }, { on := 0, ground := Ground.phase }, { on := 1, ground := Ground.phase }, { on := 2, ground := Ground.phase }, { on := 3, ground := Ground.phase }, { on := 4, ground := Ground.phase }, { on := 5, ground := Ground.phase }], guard := none } : Oper), ({ dst := some 5, op := Op.assign (Operand.const (Value.int IntKind.i64 0)), type := 3, pos := "l14_machine.go:377", after := #[{ on := 6, ground := Ground.chain }, { on := 0, ground := Ground.phase }, { on := 1, ground := Ground.phase }, { on := 2, ground := Ground.phase }, { on := 3, ground := Ground.phase }, { on := 4, ground := Ground.phase }, { on := 5, ground := Ground.phase }, { on := 6, ground := Ground.phase }], guard := none } : Oper)] true).wp Tryd.prog Q A w1 := by
  show (Code.region 9 ni_O true).wp Tryd.prog Q A w1
  refine wp_region_slots (E := Value) (ni_V O b6 b8 M d vr vm vd) (ni_J w1 O b6 b8 M d vr vm vd) (by kernel_rfl) (by kernel_rfl) (by kernel_rfl) (fun i s hi => ?_) ?_ undef ⟨OutD.of_below (Below.refl _ _).drew, (show Blk w1.drew O mcZ from qO.drew)⟩ ?_
  · cases hc : ([36, 37, 38, 39, 40, 41, 5] : List Nat).contains s
    · exact absurd hi (ni_no hc i)
    · have : s ∈ ([36, 37, 38, 39, 40, 41, 5] : List Nat) := by simpa using hc
      simp only [List.mem_cons, List.not_mem_nil, or_false] at this
      omega
  · intro f e a w i o hi ho hun hdep hJ hFr K hK
    have hi8 : i < 8 := hi
    rcases (by omega : i = 0 ∨ i = 1 ∨ i = 2 ∨ i = 3 ∨ i = 4 ∨ i = 5 ∨ i = 6 ∨ i = 7) with rfl | rfl | rfl | rfl | rfl | rfl | rfl | rfl
    · obtain rfl := Option.some.inj ho
      exact ni_s0 A w1 Q O b6 b8 M d vr vm vd h4 h6 h8 qO q6 q8 n6 n8 o1 o2 o3 hC hP hS f e a w hun hdep hJ hFr K hK
    · obtain rfl := Option.some.inj ho
      exact ni_s1 A w1 Q O b6 b8 M d vr vm vd h4 h6 h8 qO q6 q8 n6 n8 o1 o2 o3 hC hP hS f e a w hun hdep hJ hFr K hK
    · obtain rfl := Option.some.inj ho
      exact ni_s2 A w1 Q O b6 b8 M d vr vm vd h4 h6 h8 qO q6 q8 n6 n8 o1 o2 o3 hC hP hS f e a w hun hdep hJ hFr K hK
    · obtain rfl := Option.some.inj ho
      exact ni_s3 A w1 Q O b6 b8 M d vr vm vd h4 h6 h8 qO q6 q8 n6 n8 o1 o2 o3 hC hP hS f e a w hun hdep hJ hFr K hK
    · obtain rfl := Option.some.inj ho
      exact ni_s4 A w1 Q O b6 b8 M d vr vm vd h4 h6 h8 qO q6 q8 n6 n8 o1 o2 o3 hC hP hS f e a w hun hdep hJ hFr K hK
    · obtain rfl := Option.some.inj ho
      exact ni_s5 A w1 Q O b6 b8 M d vr vm vd h4 h6 h8 qO q6 q8 n6 n8 o1 o2 o3 hC hP hS f e a w hun hdep hJ hFr K hK
    · obtain rfl := Option.some.inj ho
      exact ni_s6 A w1 Q O b6 b8 M d vr vm vd h4 h6 h8 qO q6 q8 n6 n8 o1 o2 o3 hC hP hS f e a w hun hdep hJ hFr K hK
    · obtain rfl := Option.some.inj ho
      exact ni_s7 A w1 Q O b6 b8 M d vr vm vd h4 h6 h8 qO q6 q8 n6 n8 o1 o2 o3 hC hP hS f e a w hun hdep hJ hFr K hK
  · intro f e a w hall hJ hFr
    have := h w e hJ.1 (show Blk w O (mcA (nmX M d) vr vm vd nlV) from by have := hJ.2; rwa [if_pos (hall 6 (by decide))] at this)
    rw [hFr.eq [(36, cuV cuNew), (37, .agg (mcC vr vm M).toArray), (38, poV neP), (39, sgV neS), (40, .agg (dkL vd d).toArray), (41, (.agg (mcA (nmX M d) vr vm vd nlV))), (5, .int .i64 0)] (fun s hs => ?_) (fun i s hi => ?_)]
    · exact this
    · have hne : ∀ k ∈ ([36, 37, 38, 39, 40, 41, 5] : List Nat), k ≠ s := by
        intro k hk e2
        subst e2
        simp only [List.mem_cons, List.not_mem_nil, or_false] at hk
        rcases hk with rfl | rfl | rfl | rfl | rfl | rfl | rfl
        · exact hs 0 rfl
        · exact hs 1 rfl
        · exact hs 2 rfl
        · exact hs 3 rfl
        · exact hs 4 rfl
        · exact hs 5 rfl
        · exact hs 7 rfl
      simp only [lookA]
      simp [hne]
    · have hl : i < 8 := by
        rcases Nat.lt_or_ge i 8 with h1 | h1
        · exact h1
        · unfold dstAt at hi
          rw [Array.getElem?_eq_none (by exact h1)] at hi
          cases hi
      refine ⟨hall i hl, ?_⟩
      rcases (by omega : i = 0 ∨ i = 1 ∨ i = 2 ∨ i = 3 ∨ i = 4 ∨ i = 5 ∨ i = 6 ∨ i = 7) with rfl | rfl | rfl | rfl | rfl | rfl | rfl | rfl
      all_goals first
        | (cases hi; rfl)
        | cases hi
def nm_V (O b6 b8 : Nat) (M : Mem) (d : Dk) (vr vm vd : Value) : Nat → Value → Value := fun i e => match i with
  | 0 => cuV cuNew
  | 1 => .agg (mcC vr vm M).toArray
  | 2 => poV neP
  | 3 => sgV neS
  | 4 => .agg (dkL vd d).toArray
  | 5 => e
  | 6 => (.agg (mcA (nmX M d) vr vm vd e))
  | 8 => .int .i64 0
  | _ => undef
def nm_J (w1 : World) (O b6 b8 : Nat) (M : Mem) (d : Dk) (vr vm vd : Value) (f : Nat → Bool) (e : Value) (w : World) : Prop :=
  OutD (fun b => b = O) w1 w ∧ (if f 7 = true then Blk w O (mcA (nmX M d) vr vm vd e) else Blk w O mcZ) ∧ (f 5 = true → ∃ a c, e = .slice a 0 c) ∧ ((f 6 = true ∨ f 7 = true) → f 5 = true)
def nm_o0 : Oper := ({ dst := some 27, op := Op.call { callee := Callee.value (Operand.func 75), args := #[], argTypes := #[] }, type := 26, pos := "l14_machine.go:14", after := #[], guard := none } : Oper)
def nm_o1 : Oper := ({ dst := some 28, op := Op.load 30 (Operand.tmp 6), type := 30, pos := "l14_machine.go:14", after := #[], guard := none } : Oper)
def nm_o2 : Oper := ({ dst := some 29, op := Op.call { callee := Callee.value (Operand.func 76), args := #[], argTypes := #[] }, type := 32, pos := "l14_machine.go:14", after := #[{ on := 0, ground := Ground.chain }], guard := none } : Oper)
def nm_o3 : Oper := ({ dst := some 30, op := Op.call { callee := Callee.value (Operand.func 77), args := #[], argTypes := #[] }, type := 36, pos := "l14_machine.go:14", after := #[{ on := 2, ground := Ground.chain }], guard := none } : Oper)
def nm_o4 : Oper := ({ dst := some 31, op := Op.load 38 (Operand.tmp 8), type := 38, pos := "l14_machine.go:14", after := #[], guard := none } : Oper)
def nm_o5 : Oper := ({ dst := some 32, op := Op.buildSlice 39 0 #[], type := 39, pos := "l14_machine.go:14", after := #[], guard := none } : Oper)
def nm_o6 : Oper := ({ dst := some 33, op := Op.build 41 #[(0, Operand.tmp 27), (1, Operand.tmp 28), (2, Operand.tmp 29), (3, Operand.tmp 30), (4, Operand.tmp 31), (9, Operand.tmp 32)], type := 41, pos := "l14_machine.go:14", after := #[{ on := 0, ground := Ground.data }, { on := 1, ground := Ground.data }, { on := 2, ground := Ground.data }, { on := 3, ground := Ground.data }, { on := 4, ground := Ground.data }, { on := 5, ground := Ground.data }], guard := none } : Oper)
def nm_o7 : Oper := ({ dst := none, op := Op.store 41 (Operand.tmp 4) (Operand.tmp 33), type := 0, pos := "l14_machine.go:14", after := #[{ on := 6, ground := Ground.data }, { on := 3, ground := Ground.chain }, { on := 0, ground := Ground.phase }, { on := 1, ground := Ground.phase }, { on := 2, ground := Ground.phase }, { on := 3, ground := Ground.phase }, { on := 4, ground := Ground.phase }, { on := 5, ground := Ground.phase }, { on := 6, ground := Ground.phase }], guard := none } : Oper)
def nm_o8 : Oper := ({ dst := some 5, op := Op.assign (Operand.const (Value.int IntKind.i64 0)), type := 3, pos := "l14_machine.go:14", after := #[{ on := 7, ground := Ground.chain }, { on := 0, ground := Ground.phase }, { on := 1, ground := Ground.phase }, { on := 2, ground := Ground.phase }, { on := 3, ground := Ground.phase }, { on := 4, ground := Ground.phase }, { on := 5, ground := Ground.phase }, { on := 6, ground := Ground.phase }, { on := 7, ground := Ground.phase }], guard := none } : Oper)
def nm_O : Array Oper := #[nm_o0, nm_o1, nm_o2, nm_o3, nm_o4, nm_o5, nm_o6, nm_o7, nm_o8]
theorem nm_no {s : Nat} (h : ([27, 28, 29, 30, 31, 32, 33, 5] : List Nat).contains s = false) : ∀ i, dstAt nm_O i ≠ some s := by
  intro i hi
  have hl : i < 9 := by
    rcases Nat.lt_or_ge i 9 with h1 | h1
    · exact h1
    · unfold dstAt at hi
      rw [Array.getElem?_eq_none (by exact h1)] at hi
      cases hi
  rcases (by omega : i = 0 ∨ i = 1 ∨ i = 2 ∨ i = 3 ∨ i = 4 ∨ i = 5 ∨ i = 6 ∨ i = 7 ∨ i = 8) with rfl | rfl | rfl | rfl | rfl | rfl | rfl | rfl | rfl
  all_goals first
    | (cases hi; simp at h)
    | cases hi
theorem nm_keep (O b6 b8 : Nat) (M : Mem) (d : Dk) (vr vm vd : Value) {f : Nat → Bool} (e u : Value) (h6 : f 6 = true → f 5 = true) (hn : f 5 = false) : ∀ j, f j = true → nm_V O b6 b8 M d vr vm vd j u = nm_V O b6 b8 M d vr vm vd j e := by
  intro j hj
  unfold nm_V
  split
  · rfl
  · rfl
  · rfl
  · rfl
  · rfl
  · rw [hn] at hj; cases hj
  · exact absurd (h6 hj) (by rw [hn]; decide)
  · rfl
  · rfl
set_option maxRecDepth 100000 in
set_option maxHeartbeats 2000000 in
theorem nm_s0 (A : Act) (w1 : World) (Q : Exit → Act → World → Prop) (O b6 b8 : Nat) (M : Mem) (d : Dk) (vr vm vd : Value) 
    (h4 : A.tmps.getD 4 undef = .pointer (some ⟨O, 0, none⟩)) (h6 : A.tmps.getD 6 undef = .pointer (some ⟨b6, 0, none⟩)) (h8 : A.tmps.getD 8 undef = .pointer (some ⟨b8, 0, none⟩)) (qO : Blk w1 O mcZ) (q6 : Blk w1 b6 (mcC vr vm M).toArray) (q8 : Blk w1 b8 (dkL vd d).toArray) (n6 : b6 ≠ O) (n8 : b8 ≠ O) (o1 : vr.oneCell' = true) (o2 : vm.oneCell' = true) (o3 : vd.oneCell' = true) (hC : (∀ W, OutD (fun b => b = O) w1 W → Calls Tryd.prog 75 #[] W fun r w' => r = .returned (cuV cuNew) ∧ Below W.heap.size W w')) (hP : (∀ W, OutD (fun b => b = O) w1 W → Calls Tryd.prog 76 #[] W fun r w' => r = .returned (poV neP) ∧ Below W.heap.size W w')) (hS : (∀ W, OutD (fun b => b = O) w1 W → Calls Tryd.prog 77 #[] W fun r w' => r = .returned (sgV neS) ∧ Below W.heap.size W w'))
    (f : Nat → Bool) (e : Value) (a : Act) (w : World) (hun : f 0 = false) (hdep : ∀ d ∈ nm_o0.after, Region.binds .any d = true → f d.on = true) (hJ : nm_J w1 O b6 b8 M d vr vm vd f e w) (hFr : Fr nm_O A f (fun j => nm_V O b6 b8 M d vr vm vd j e) a)
    (K : Act → World → Prop) (hK : Hid (∀ v e' w', v = nm_V O b6 b8 M d vr vm vd 0 e' → (∀ j, f j = true → nm_V O b6 b8 M d vr vm vd j e' = nm_V O b6 b8 M d vr vm vd j e) → nm_J w1 O b6 b8 M d vr vm vd (fun j => j == 0 || f j) e' w' → K (a.put nm_o0.dst v) w')) :
    if Region.wanted nm_o0 (yielded nm_O a.tmps) = true then Oper.wp Tryd.prog nm_o0 a w K Q else K (a.put nm_o0.dst undef) w := by
  unfold nm_o0 at hdep hK ⊢
  have hK9 := hK
  obtain ⟨hB, jO, j5, j6⟩ := hJ
  replace hB := hid hB
  replace jO := hid jO
  replace j5 := hid j5
  replace j6 := hid j6
  replace hC := hid hC
  replace hP := hid hP
  replace hS := hid hS
  replace qO := hid qO
  replace q6 := hid q6
  replace q8 := hid q8
  clear hdep hFr h4 h6 h8
  go_simp
  go_at_call 75
  refine (hC.out w hB.out).mono ?_
  rintro r w' ⟨rfl, hb'⟩
  replace hb' := hid hb'
  have jN : (if f 7 = true then Blk w' O (mcA (nmX M d) vr vm vd e) else Blk w' O mcZ) := by
    have jo := jO.out
    cases hf : f 7
    · rw [hf] at jo
      exact Blk.below jo hb'.out jo.lt
    · rw [hf] at jo
      exact Blk.below jo hb'.out jo.lt
  replace jN := hid jN
  go_simp
  exact hK9.out _ e _ rfl (fun _ _ => rfl) ⟨hB.out.trans (OutD.of_below hb'.out), jN.out, j5.out, j6.out⟩
set_option maxRecDepth 100000 in
set_option maxHeartbeats 2000000 in
theorem nm_s1 (A : Act) (w1 : World) (Q : Exit → Act → World → Prop) (O b6 b8 : Nat) (M : Mem) (d : Dk) (vr vm vd : Value) 
    (h4 : A.tmps.getD 4 undef = .pointer (some ⟨O, 0, none⟩)) (h6 : A.tmps.getD 6 undef = .pointer (some ⟨b6, 0, none⟩)) (h8 : A.tmps.getD 8 undef = .pointer (some ⟨b8, 0, none⟩)) (qO : Blk w1 O mcZ) (q6 : Blk w1 b6 (mcC vr vm M).toArray) (q8 : Blk w1 b8 (dkL vd d).toArray) (n6 : b6 ≠ O) (n8 : b8 ≠ O) (o1 : vr.oneCell' = true) (o2 : vm.oneCell' = true) (o3 : vd.oneCell' = true) (hC : (∀ W, OutD (fun b => b = O) w1 W → Calls Tryd.prog 75 #[] W fun r w' => r = .returned (cuV cuNew) ∧ Below W.heap.size W w')) (hP : (∀ W, OutD (fun b => b = O) w1 W → Calls Tryd.prog 76 #[] W fun r w' => r = .returned (poV neP) ∧ Below W.heap.size W w')) (hS : (∀ W, OutD (fun b => b = O) w1 W → Calls Tryd.prog 77 #[] W fun r w' => r = .returned (sgV neS) ∧ Below W.heap.size W w'))
    (f : Nat → Bool) (e : Value) (a : Act) (w : World) (hun : f 1 = false) (hdep : ∀ d ∈ nm_o1.after, Region.binds .any d = true → f d.on = true) (hJ : nm_J w1 O b6 b8 M d vr vm vd f e w) (hFr : Fr nm_O A f (fun j => nm_V O b6 b8 M d vr vm vd j e) a)
    (K : Act → World → Prop) (hK : Hid (∀ v e' w', v = nm_V O b6 b8 M d vr vm vd 1 e' → (∀ j, f j = true → nm_V O b6 b8 M d vr vm vd j e' = nm_V O b6 b8 M d vr vm vd j e) → nm_J w1 O b6 b8 M d vr vm vd (fun j => j == 1 || f j) e' w' → K (a.put nm_o1.dst v) w')) :
    if Region.wanted nm_o1 (yielded nm_O a.tmps) = true then Oper.wp Tryd.prog nm_o1 a w K Q else K (a.put nm_o1.dst undef) w := by
  unfold nm_o1 at hdep hK ⊢
  have hK9 := hK
  obtain ⟨hB, jO, j5, j6⟩ := hJ
  have v6 := (hFr.old 6 (nm_no (by decide))).trans h6
  have x0 : w.rangeAt b6 0 (mcC vr vm M) := rng_of (q6.outD hB n6) [] _ [] (by simp)
  rw [if_pos (show Region.wanted _ _ = true from rfl)]
  refine wp_load_mid 30 _ rfl b6 0 v6 (mcC vr vm M) _ x0 Tryd.underlying30 rfl (szMe _ _ _) ?_
  exact hK9.out _ e _ rfl (fun _ _ => rfl) ⟨hB, jO, j5, j6⟩
set_option maxRecDepth 100000 in
set_option maxHeartbeats 2000000 in
theorem nm_s2 (A : Act) (w1 : World) (Q : Exit → Act → World → Prop) (O b6 b8 : Nat) (M : Mem) (d : Dk) (vr vm vd : Value) 
    (h4 : A.tmps.getD 4 undef = .pointer (some ⟨O, 0, none⟩)) (h6 : A.tmps.getD 6 undef = .pointer (some ⟨b6, 0, none⟩)) (h8 : A.tmps.getD 8 undef = .pointer (some ⟨b8, 0, none⟩)) (qO : Blk w1 O mcZ) (q6 : Blk w1 b6 (mcC vr vm M).toArray) (q8 : Blk w1 b8 (dkL vd d).toArray) (n6 : b6 ≠ O) (n8 : b8 ≠ O) (o1 : vr.oneCell' = true) (o2 : vm.oneCell' = true) (o3 : vd.oneCell' = true) (hC : (∀ W, OutD (fun b => b = O) w1 W → Calls Tryd.prog 75 #[] W fun r w' => r = .returned (cuV cuNew) ∧ Below W.heap.size W w')) (hP : (∀ W, OutD (fun b => b = O) w1 W → Calls Tryd.prog 76 #[] W fun r w' => r = .returned (poV neP) ∧ Below W.heap.size W w')) (hS : (∀ W, OutD (fun b => b = O) w1 W → Calls Tryd.prog 77 #[] W fun r w' => r = .returned (sgV neS) ∧ Below W.heap.size W w'))
    (f : Nat → Bool) (e : Value) (a : Act) (w : World) (hun : f 2 = false) (hdep : ∀ d ∈ nm_o2.after, Region.binds .any d = true → f d.on = true) (hJ : nm_J w1 O b6 b8 M d vr vm vd f e w) (hFr : Fr nm_O A f (fun j => nm_V O b6 b8 M d vr vm vd j e) a)
    (K : Act → World → Prop) (hK : Hid (∀ v e' w', v = nm_V O b6 b8 M d vr vm vd 2 e' → (∀ j, f j = true → nm_V O b6 b8 M d vr vm vd j e' = nm_V O b6 b8 M d vr vm vd j e) → nm_J w1 O b6 b8 M d vr vm vd (fun j => j == 2 || f j) e' w' → K (a.put nm_o2.dst v) w')) :
    if Region.wanted nm_o2 (yielded nm_O a.tmps) = true then Oper.wp Tryd.prog nm_o2 a w K Q else K (a.put nm_o2.dst undef) w := by
  unfold nm_o2 at hdep hK ⊢
  have hK9 := hK
  obtain ⟨hB, jO, j5, j6⟩ := hJ
  replace hB := hid hB
  replace jO := hid jO
  replace j5 := hid j5
  replace j6 := hid j6
  replace hC := hid hC
  replace hP := hid hP
  replace hS := hid hS
  replace qO := hid qO
  replace q6 := hid q6
  replace q8 := hid q8
  clear hdep hFr h4 h6 h8
  go_simp
  go_at_call 76
  refine (hP.out w hB.out).mono ?_
  rintro r w' ⟨rfl, hb'⟩
  replace hb' := hid hb'
  have jN : (if f 7 = true then Blk w' O (mcA (nmX M d) vr vm vd e) else Blk w' O mcZ) := by
    have jo := jO.out
    cases hf : f 7
    · rw [hf] at jo
      exact Blk.below jo hb'.out jo.lt
    · rw [hf] at jo
      exact Blk.below jo hb'.out jo.lt
  replace jN := hid jN
  go_simp
  exact hK9.out _ e _ rfl (fun _ _ => rfl) ⟨hB.out.trans (OutD.of_below hb'.out), jN.out, j5.out, j6.out⟩
set_option maxRecDepth 100000 in
set_option maxHeartbeats 2000000 in
theorem nm_s3 (A : Act) (w1 : World) (Q : Exit → Act → World → Prop) (O b6 b8 : Nat) (M : Mem) (d : Dk) (vr vm vd : Value) 
    (h4 : A.tmps.getD 4 undef = .pointer (some ⟨O, 0, none⟩)) (h6 : A.tmps.getD 6 undef = .pointer (some ⟨b6, 0, none⟩)) (h8 : A.tmps.getD 8 undef = .pointer (some ⟨b8, 0, none⟩)) (qO : Blk w1 O mcZ) (q6 : Blk w1 b6 (mcC vr vm M).toArray) (q8 : Blk w1 b8 (dkL vd d).toArray) (n6 : b6 ≠ O) (n8 : b8 ≠ O) (o1 : vr.oneCell' = true) (o2 : vm.oneCell' = true) (o3 : vd.oneCell' = true) (hC : (∀ W, OutD (fun b => b = O) w1 W → Calls Tryd.prog 75 #[] W fun r w' => r = .returned (cuV cuNew) ∧ Below W.heap.size W w')) (hP : (∀ W, OutD (fun b => b = O) w1 W → Calls Tryd.prog 76 #[] W fun r w' => r = .returned (poV neP) ∧ Below W.heap.size W w')) (hS : (∀ W, OutD (fun b => b = O) w1 W → Calls Tryd.prog 77 #[] W fun r w' => r = .returned (sgV neS) ∧ Below W.heap.size W w'))
    (f : Nat → Bool) (e : Value) (a : Act) (w : World) (hun : f 3 = false) (hdep : ∀ d ∈ nm_o3.after, Region.binds .any d = true → f d.on = true) (hJ : nm_J w1 O b6 b8 M d vr vm vd f e w) (hFr : Fr nm_O A f (fun j => nm_V O b6 b8 M d vr vm vd j e) a)
    (K : Act → World → Prop) (hK : Hid (∀ v e' w', v = nm_V O b6 b8 M d vr vm vd 3 e' → (∀ j, f j = true → nm_V O b6 b8 M d vr vm vd j e' = nm_V O b6 b8 M d vr vm vd j e) → nm_J w1 O b6 b8 M d vr vm vd (fun j => j == 3 || f j) e' w' → K (a.put nm_o3.dst v) w')) :
    if Region.wanted nm_o3 (yielded nm_O a.tmps) = true then Oper.wp Tryd.prog nm_o3 a w K Q else K (a.put nm_o3.dst undef) w := by
  unfold nm_o3 at hdep hK ⊢
  have hK9 := hK
  obtain ⟨hB, jO, j5, j6⟩ := hJ
  replace hB := hid hB
  replace jO := hid jO
  replace j5 := hid j5
  replace j6 := hid j6
  replace hC := hid hC
  replace hP := hid hP
  replace hS := hid hS
  replace qO := hid qO
  replace q6 := hid q6
  replace q8 := hid q8
  clear hdep hFr h4 h6 h8
  go_simp
  go_at_call 77
  refine (hS.out w hB.out).mono ?_
  rintro r w' ⟨rfl, hb'⟩
  replace hb' := hid hb'
  have jN : (if f 7 = true then Blk w' O (mcA (nmX M d) vr vm vd e) else Blk w' O mcZ) := by
    have jo := jO.out
    cases hf : f 7
    · rw [hf] at jo
      exact Blk.below jo hb'.out jo.lt
    · rw [hf] at jo
      exact Blk.below jo hb'.out jo.lt
  replace jN := hid jN
  go_simp
  exact hK9.out _ e _ rfl (fun _ _ => rfl) ⟨hB.out.trans (OutD.of_below hb'.out), jN.out, j5.out, j6.out⟩
set_option maxRecDepth 100000 in
set_option maxHeartbeats 2000000 in
theorem nm_s4 (A : Act) (w1 : World) (Q : Exit → Act → World → Prop) (O b6 b8 : Nat) (M : Mem) (d : Dk) (vr vm vd : Value) 
    (h4 : A.tmps.getD 4 undef = .pointer (some ⟨O, 0, none⟩)) (h6 : A.tmps.getD 6 undef = .pointer (some ⟨b6, 0, none⟩)) (h8 : A.tmps.getD 8 undef = .pointer (some ⟨b8, 0, none⟩)) (qO : Blk w1 O mcZ) (q6 : Blk w1 b6 (mcC vr vm M).toArray) (q8 : Blk w1 b8 (dkL vd d).toArray) (n6 : b6 ≠ O) (n8 : b8 ≠ O) (o1 : vr.oneCell' = true) (o2 : vm.oneCell' = true) (o3 : vd.oneCell' = true) (hC : (∀ W, OutD (fun b => b = O) w1 W → Calls Tryd.prog 75 #[] W fun r w' => r = .returned (cuV cuNew) ∧ Below W.heap.size W w')) (hP : (∀ W, OutD (fun b => b = O) w1 W → Calls Tryd.prog 76 #[] W fun r w' => r = .returned (poV neP) ∧ Below W.heap.size W w')) (hS : (∀ W, OutD (fun b => b = O) w1 W → Calls Tryd.prog 77 #[] W fun r w' => r = .returned (sgV neS) ∧ Below W.heap.size W w'))
    (f : Nat → Bool) (e : Value) (a : Act) (w : World) (hun : f 4 = false) (hdep : ∀ d ∈ nm_o4.after, Region.binds .any d = true → f d.on = true) (hJ : nm_J w1 O b6 b8 M d vr vm vd f e w) (hFr : Fr nm_O A f (fun j => nm_V O b6 b8 M d vr vm vd j e) a)
    (K : Act → World → Prop) (hK : Hid (∀ v e' w', v = nm_V O b6 b8 M d vr vm vd 4 e' → (∀ j, f j = true → nm_V O b6 b8 M d vr vm vd j e' = nm_V O b6 b8 M d vr vm vd j e) → nm_J w1 O b6 b8 M d vr vm vd (fun j => j == 4 || f j) e' w' → K (a.put nm_o4.dst v) w')) :
    if Region.wanted nm_o4 (yielded nm_O a.tmps) = true then Oper.wp Tryd.prog nm_o4 a w K Q else K (a.put nm_o4.dst undef) w := by
  unfold nm_o4 at hdep hK ⊢
  have hK9 := hK
  obtain ⟨hB, jO, j5, j6⟩ := hJ
  have v8 := (hFr.old 8 (nm_no (by decide))).trans h8
  have x0 : w.rangeAt b8 0 (dkL vd d) := rng_of (q8.outD hB n8) [] _ [] (by simp)
  rw [if_pos (show Region.wanted _ _ = true from rfl)]
  refine wp_load_mid 38 _ rfl b8 0 v8 (dkL vd d) _ x0 Tryd.underlying38 rfl (szDk _ _) ?_
  exact hK9.out _ e _ rfl (fun _ _ => rfl) ⟨hB, jO, j5, j6⟩
set_option maxRecDepth 100000 in
set_option maxHeartbeats 2000000 in
theorem nm_s5 (A : Act) (w1 : World) (Q : Exit → Act → World → Prop) (O b6 b8 : Nat) (M : Mem) (d : Dk) (vr vm vd : Value) 
    (h4 : A.tmps.getD 4 undef = .pointer (some ⟨O, 0, none⟩)) (h6 : A.tmps.getD 6 undef = .pointer (some ⟨b6, 0, none⟩)) (h8 : A.tmps.getD 8 undef = .pointer (some ⟨b8, 0, none⟩)) (qO : Blk w1 O mcZ) (q6 : Blk w1 b6 (mcC vr vm M).toArray) (q8 : Blk w1 b8 (dkL vd d).toArray) (n6 : b6 ≠ O) (n8 : b8 ≠ O) (o1 : vr.oneCell' = true) (o2 : vm.oneCell' = true) (o3 : vd.oneCell' = true) (hC : (∀ W, OutD (fun b => b = O) w1 W → Calls Tryd.prog 75 #[] W fun r w' => r = .returned (cuV cuNew) ∧ Below W.heap.size W w')) (hP : (∀ W, OutD (fun b => b = O) w1 W → Calls Tryd.prog 76 #[] W fun r w' => r = .returned (poV neP) ∧ Below W.heap.size W w')) (hS : (∀ W, OutD (fun b => b = O) w1 W → Calls Tryd.prog 77 #[] W fun r w' => r = .returned (sgV neS) ∧ Below W.heap.size W w'))
    (f : Nat → Bool) (e : Value) (a : Act) (w : World) (hun : f 5 = false) (hdep : ∀ d ∈ nm_o5.after, Region.binds .any d = true → f d.on = true) (hJ : nm_J w1 O b6 b8 M d vr vm vd f e w) (hFr : Fr nm_O A f (fun j => nm_V O b6 b8 M d vr vm vd j e) a)
    (K : Act → World → Prop) (hK : Hid (∀ v e' w', v = nm_V O b6 b8 M d vr vm vd 5 e' → (∀ j, f j = true → nm_V O b6 b8 M d vr vm vd j e' = nm_V O b6 b8 M d vr vm vd j e) → nm_J w1 O b6 b8 M d vr vm vd (fun j => j == 5 || f j) e' w' → K (a.put nm_o5.dst v) w')) :
    if Region.wanted nm_o5 (yielded nm_O a.tmps) = true then Oper.wp Tryd.prog nm_o5 a w K Q else K (a.put nm_o5.dst undef) w := by
  unfold nm_o5 at hdep hK ⊢
  have hK9 := hK
  obtain ⟨hB, jO, j5, j6⟩ := hJ
  replace hB := hid hB
  replace jO := hid jO
  replace j5 := hid j5
  replace j6 := hid j6
  replace hC := hid hC
  replace hP := hid hP
  replace hS := hid hS
  replace qO := hid qO
  replace q6 := hid q6
  replace q8 := hid q8
  clear hdep hFr h4 h6 h8
  go_simp
  have hb' : Below w.heap.size w (w.alloc (.cells #[] 117)) := (Below.refl _ _).alloc (Nat.le_refl _) _
  replace hb' := hid hb'
  have jN : (if f 7 = true then Blk (w.alloc (.cells #[] 117)) O (mcA (nmX M d) vr vm vd (.slice (some ⟨w.heap.size, 0, none⟩) 0 0)) else Blk (w.alloc (.cells #[] 117)) O mcZ) := by
    have jo := jO.out
    cases hf : f 7
    · rw [hf] at jo
      exact Blk.below jo hb'.out jo.lt
    · have := j6.out (.inr hf)
      rw [hun] at this
      cases this
  replace jN := hid jN
  exact hK9.out _ (.slice (some ⟨w.heap.size, 0, none⟩) 0 0) _ rfl (nm_keep O b6 b8 M d vr vm vd e _ (fun h => j6.out (.inl h)) hun) ⟨hB.out.trans (OutD.of_below hb'.out), jN.out, fun _ => ⟨_, _, rfl⟩, fun _ => rfl⟩
set_option maxRecDepth 100000 in
set_option maxHeartbeats 2000000 in
theorem nm_s6 (A : Act) (w1 : World) (Q : Exit → Act → World → Prop) (O b6 b8 : Nat) (M : Mem) (d : Dk) (vr vm vd : Value) 
    (h4 : A.tmps.getD 4 undef = .pointer (some ⟨O, 0, none⟩)) (h6 : A.tmps.getD 6 undef = .pointer (some ⟨b6, 0, none⟩)) (h8 : A.tmps.getD 8 undef = .pointer (some ⟨b8, 0, none⟩)) (qO : Blk w1 O mcZ) (q6 : Blk w1 b6 (mcC vr vm M).toArray) (q8 : Blk w1 b8 (dkL vd d).toArray) (n6 : b6 ≠ O) (n8 : b8 ≠ O) (o1 : vr.oneCell' = true) (o2 : vm.oneCell' = true) (o3 : vd.oneCell' = true) (hC : (∀ W, OutD (fun b => b = O) w1 W → Calls Tryd.prog 75 #[] W fun r w' => r = .returned (cuV cuNew) ∧ Below W.heap.size W w')) (hP : (∀ W, OutD (fun b => b = O) w1 W → Calls Tryd.prog 76 #[] W fun r w' => r = .returned (poV neP) ∧ Below W.heap.size W w')) (hS : (∀ W, OutD (fun b => b = O) w1 W → Calls Tryd.prog 77 #[] W fun r w' => r = .returned (sgV neS) ∧ Below W.heap.size W w'))
    (f : Nat → Bool) (e : Value) (a : Act) (w : World) (hun : f 6 = false) (hdep : ∀ d ∈ nm_o6.after, Region.binds .any d = true → f d.on = true) (hJ : nm_J w1 O b6 b8 M d vr vm vd f e w) (hFr : Fr nm_O A f (fun j => nm_V O b6 b8 M d vr vm vd j e) a)
    (K : Act → World → Prop) (hK : Hid (∀ v e' w', v = nm_V O b6 b8 M d vr vm vd 6 e' → (∀ j, f j = true → nm_V O b6 b8 M d vr vm vd j e' = nm_V O b6 b8 M d vr vm vd j e) → nm_J w1 O b6 b8 M d vr vm vd (fun j => j == 6 || f j) e' w' → K (a.put nm_o6.dst v) w')) :
    if Region.wanted nm_o6 (yielded nm_O a.tmps) = true then Oper.wp Tryd.prog nm_o6 a w K Q else K (a.put nm_o6.dst undef) w := by
  unfold nm_o6 at hdep hK ⊢
  have hK9 := hK
  obtain ⟨hB, jO, j5, j6⟩ := hJ
  have k0 : f 0 = true := hdep { on := 0, ground := .data } (by simp) rfl
  have v27 : a.tmps.getD 27 undef = cuV cuNew := hFr.new 0 27 rfl k0
  rw [Array.getD_eq_getD_getElem?] at v27
  have k1 : f 1 = true := hdep { on := 1, ground := .data } (by simp) rfl
  have v28 : a.tmps.getD 28 undef = .agg (mcC vr vm M).toArray := hFr.new 1 28 rfl k1
  rw [Array.getD_eq_getD_getElem?] at v28
  have k2 : f 2 = true := hdep { on := 2, ground := .data } (by simp) rfl
  have v29 : a.tmps.getD 29 undef = poV neP := hFr.new 2 29 rfl k2
  rw [Array.getD_eq_getD_getElem?] at v29
  have k3 : f 3 = true := hdep { on := 3, ground := .data } (by simp) rfl
  have v30 : a.tmps.getD 30 undef = sgV neS := hFr.new 3 30 rfl k3
  rw [Array.getD_eq_getD_getElem?] at v30
  have k4 : f 4 = true := hdep { on := 4, ground := .data } (by simp) rfl
  have v31 : a.tmps.getD 31 undef = .agg (dkL vd d).toArray := hFr.new 4 31 rfl k4
  rw [Array.getD_eq_getD_getElem?] at v31
  have k5 : f 5 = true := hdep { on := 5, ground := .data } (by simp) rfl
  have v32 : a.tmps.getD 32 undef = e := hFr.new 5 32 rfl k5
  rw [Array.getD_eq_getD_getElem?] at v32
  replace hB := hid hB
  replace jO := hid jO
  replace j5 := hid j5
  replace j6 := hid j6
  replace hC := hid hC
  replace hP := hid hP
  replace hS := hid hS
  replace qO := hid qO
  replace q6 := hid q6
  replace q8 := hid q8
  clear hdep hFr h4 h6 h8
  obtain ⟨ea, ec, rfl⟩ := j5.out k5
  go_simp
  exact hK9.out _ _ _ rfl (fun _ _ => rfl) ⟨hB.out, jO.out, j5.out, fun _ => k5⟩
set_option maxRecDepth 100000 in
set_option maxHeartbeats 2000000 in
theorem nm_s7 (A : Act) (w1 : World) (Q : Exit → Act → World → Prop) (O b6 b8 : Nat) (M : Mem) (d : Dk) (vr vm vd : Value) 
    (h4 : A.tmps.getD 4 undef = .pointer (some ⟨O, 0, none⟩)) (h6 : A.tmps.getD 6 undef = .pointer (some ⟨b6, 0, none⟩)) (h8 : A.tmps.getD 8 undef = .pointer (some ⟨b8, 0, none⟩)) (qO : Blk w1 O mcZ) (q6 : Blk w1 b6 (mcC vr vm M).toArray) (q8 : Blk w1 b8 (dkL vd d).toArray) (n6 : b6 ≠ O) (n8 : b8 ≠ O) (o1 : vr.oneCell' = true) (o2 : vm.oneCell' = true) (o3 : vd.oneCell' = true) (hC : (∀ W, OutD (fun b => b = O) w1 W → Calls Tryd.prog 75 #[] W fun r w' => r = .returned (cuV cuNew) ∧ Below W.heap.size W w')) (hP : (∀ W, OutD (fun b => b = O) w1 W → Calls Tryd.prog 76 #[] W fun r w' => r = .returned (poV neP) ∧ Below W.heap.size W w')) (hS : (∀ W, OutD (fun b => b = O) w1 W → Calls Tryd.prog 77 #[] W fun r w' => r = .returned (sgV neS) ∧ Below W.heap.size W w'))
    (f : Nat → Bool) (e : Value) (a : Act) (w : World) (hun : f 7 = false) (hdep : ∀ d ∈ nm_o7.after, Region.binds .any d = true → f d.on = true) (hJ : nm_J w1 O b6 b8 M d vr vm vd f e w) (hFr : Fr nm_O A f (fun j => nm_V O b6 b8 M d vr vm vd j e) a)
    (K : Act → World → Prop) (hK : Hid (∀ v e' w', v = nm_V O b6 b8 M d vr vm vd 7 e' → (∀ j, f j = true → nm_V O b6 b8 M d vr vm vd j e' = nm_V O b6 b8 M d vr vm vd j e) → nm_J w1 O b6 b8 M d vr vm vd (fun j => j == 7 || f j) e' w' → K (a.put nm_o7.dst v) w')) :
    if Region.wanted nm_o7 (yielded nm_O a.tmps) = true then Oper.wp Tryd.prog nm_o7 a w K Q else K (a.put nm_o7.dst undef) w := by
  unfold nm_o7 at hdep hK ⊢
  have hK9 := hK
  obtain ⟨hB, jO, j5, j6⟩ := hJ
  have k6 : f 6 = true := hdep { on := 6, ground := .data } (by simp) rfl
  have v33 : a.tmps.getD 33 undef = (.agg (mcA (nmX M d) vr vm vd e)) := hFr.new 6 33 rfl k6
  have v4 := (hFr.old 4 (nm_no (by decide))).trans h4
  have k5s := j6 (.inl k6)
  have jE := j5 k5s
  rw [hun] at jO
  have jZ : Blk w O mcZ := jO
  rw [if_pos (show Region.wanted _ _ = true from rfl)]
  have h1 : (mcA (nmX M d) vr vm vd e).all (·.oneCell') = true := mc_oneV (nmX M d) o1 o2 o3 (by obtain ⟨_, _, rfl⟩ := jE; rfl)
  refine wp_store_mid 41 _ _ rfl O 0 (mcA (nmX M d) vr vm vd e) v4 v33 (mc_there jZ (by show 0 + 58 ≤ 58; omega)) (szMcA _ _ _ _ _) h1 ?_
  have jn : Blk (w.setCells O 0 (mcA (nmX M d) vr vm vd e).toList) O (mcA (nmX M d) vr vm vd e) := by
    rw [mcZ_eq] at jZ
    have := lay_blk O (mcA (nmX M d) vr vm vd e).toList w 0 _ jZ
    rw [mlay_x] at this
    exact this
  have ho : OutD (fun b => b = O) w (w.setCells O 0 (mcA (nmX M d) vr vm vd e).toList) := ⟨(lay_os O _ 0 w).1, (lay_os O _ 0 w).2.1, (lay_os O _ 0 w).2.2, by rw [lay_size]; exact Nat.le_refl _, fun b hb hn => lay_heap O _ 0 w hn⟩
  exact hK9.out _ e _ rfl (fun _ _ => rfl) ⟨hB.trans ho, jn, j5, fun _ => k5s⟩
set_option maxRecDepth 100000 in
set_option maxHeartbeats 2000000 in
theorem nm_s8 (A : Act) (w1 : World) (Q : Exit → Act → World → Prop) (O b6 b8 : Nat) (M : Mem) (d : Dk) (vr vm vd : Value) 
    (h4 : A.tmps.getD 4 undef = .pointer (some ⟨O, 0, none⟩)) (h6 : A.tmps.getD 6 undef = .pointer (some ⟨b6, 0, none⟩)) (h8 : A.tmps.getD 8 undef = .pointer (some ⟨b8, 0, none⟩)) (qO : Blk w1 O mcZ) (q6 : Blk w1 b6 (mcC vr vm M).toArray) (q8 : Blk w1 b8 (dkL vd d).toArray) (n6 : b6 ≠ O) (n8 : b8 ≠ O) (o1 : vr.oneCell' = true) (o2 : vm.oneCell' = true) (o3 : vd.oneCell' = true) (hC : (∀ W, OutD (fun b => b = O) w1 W → Calls Tryd.prog 75 #[] W fun r w' => r = .returned (cuV cuNew) ∧ Below W.heap.size W w')) (hP : (∀ W, OutD (fun b => b = O) w1 W → Calls Tryd.prog 76 #[] W fun r w' => r = .returned (poV neP) ∧ Below W.heap.size W w')) (hS : (∀ W, OutD (fun b => b = O) w1 W → Calls Tryd.prog 77 #[] W fun r w' => r = .returned (sgV neS) ∧ Below W.heap.size W w'))
    (f : Nat → Bool) (e : Value) (a : Act) (w : World) (hun : f 8 = false) (hdep : ∀ d ∈ nm_o8.after, Region.binds .any d = true → f d.on = true) (hJ : nm_J w1 O b6 b8 M d vr vm vd f e w) (hFr : Fr nm_O A f (fun j => nm_V O b6 b8 M d vr vm vd j e) a)
    (K : Act → World → Prop) (hK : Hid (∀ v e' w', v = nm_V O b6 b8 M d vr vm vd 8 e' → (∀ j, f j = true → nm_V O b6 b8 M d vr vm vd j e' = nm_V O b6 b8 M d vr vm vd j e) → nm_J w1 O b6 b8 M d vr vm vd (fun j => j == 8 || f j) e' w' → K (a.put nm_o8.dst v) w')) :
    if Region.wanted nm_o8 (yielded nm_O a.tmps) = true then Oper.wp Tryd.prog nm_o8 a w K Q else K (a.put nm_o8.dst undef) w := by
  unfold nm_o8 at hdep hK ⊢
  have hK9 := hK
  obtain ⟨hB, jO, j5, j6⟩ := hJ
  replace hB := hid hB
  replace jO := hid jO
  replace j5 := hid j5
  replace j6 := hid j6
  replace hC := hid hC
  replace hP := hid hP
  replace hS := hid hS
  replace qO := hid qO
  replace q6 := hid q6
  replace q8 := hid q8
  clear hdep hFr h4 h6 h8
  go_simp
  exact hK9.out _ e _ rfl (fun _ _ => rfl) ⟨hB.out, jO.out, j5.out, j6.out⟩
set_option maxRecDepth 100000 in
set_option maxHeartbeats 4000000 in
theorem nm_reg (A : Act) (w1 : World) (Q : Exit → Act → World → Prop) (O b6 b8 : Nat) (M : Mem) (d : Dk) (vr vm vd : Value) 
    (h4 : A.tmps.getD 4 undef = .pointer (some ⟨O, 0, none⟩)) (h6 : A.tmps.getD 6 undef = .pointer (some ⟨b6, 0, none⟩)) (h8 : A.tmps.getD 8 undef = .pointer (some ⟨b8, 0, none⟩)) (qO : Blk w1 O mcZ) (q6 : Blk w1 b6 (mcC vr vm M).toArray) (q8 : Blk w1 b8 (dkL vd d).toArray) (n6 : b6 ≠ O) (n8 : b8 ≠ O) (o1 : vr.oneCell' = true) (o2 : vm.oneCell' = true) (o3 : vd.oneCell' = true) (hC : (∀ W, OutD (fun b => b = O) w1 W → Calls Tryd.prog 75 #[] W fun r w' => r = .returned (cuV cuNew) ∧ Below W.heap.size W w')) (hP : (∀ W, OutD (fun b => b = O) w1 W → Calls Tryd.prog 76 #[] W fun r w' => r = .returned (poV neP) ∧ Below W.heap.size W w')) (hS : (∀ W, OutD (fun b => b = O) w1 W → Calls Tryd.prog 77 #[] W fun r w' => r = .returned (sgV neS) ∧ Below W.heap.size W w')) (hN : 34 ≤ A.tmps.size)
    (h : ∀ (w : World) (e : Value), OutD (fun b => b = O) w1 w → Blk w O (mcA (nmX M d) vr vm vd e) → (∃ a c, e = .slice a 0 c) → Q .normal (putsA A [(27, cuV cuNew), (28, .agg (mcC vr vm M).toArray), (29, poV neP), (30, sgV neS), (31, .agg (dkL vd d).toArray), (32, e), (33, (.agg (mcA (nmX M d) vr vm vd e))), (5, .int .i64 0)]) w) :
    (Code.region 7 #[({ dst := some 27, op := Op.call { callee := Callee.value (Operand.func 75), args := #[], argTypes := #[] }, type := 26, pos := "l14_machine.go:14", after := #[], guard := none } : Oper), ({ dst := some 28, op := Op.load 30 (Operand.tmp 6), type := 30, pos := "l14_machine.go:14", after := #[], guard := none } : Oper), ({ dst := some 29, op := Op.call { callee := Callee.value (Operand.func 76), args := #[], argTypes := #[] }, type := 32, pos := "l14_machine.go:14", after := #[{ on := 0, ground := Ground.chain }], guard := none } : Oper), ({ dst := some 30, op := Op.call { callee := Callee.value (Operand.func 77), args := #[], argTypes := #[] }, type := 36, pos := "l14_machine.go:14", after := #[{ on := 2, ground := Ground.chain }], guard := none } : Oper), ({ dst := some 31, op := Op.load 38 (Operand.tmp 8), type := 38, pos := "l14_machine.go:14", after := #[], guard := none } : Oper), ({ dst := some 32, op := Op.buildSlice 39 0 #[], type := 39, pos := "l14_machine.go:14", after := #[], guard := none } : Oper), ({ dst := some 33, op := Op.build 41 #[(0, Operand.tmp 27), (1, Operand.tmp 28), (2, Operand.tmp 29), (3, Operand.tmp 30), (4, Operand.tmp 31), (9, Operand.tmp 32)], type := 41, pos := "l14_machine.go:14", after := #[{ on := 0, ground := Ground.data }, { on := 1, ground := Ground.data }, { on := 2, ground := Ground.data }, { on := 3, ground := Ground.data }, { on := 4, ground := Ground.data }, { on := 5, ground := Ground.data }], guard := none } : Oper), ({ dst := none, op := Op.store 41 (Operand.tmp 4) (Operand.tmp 33), type := 0, pos := "l14_machine.go:14", after := #[{ on := 6, ground := Ground.data }, { on := 3, ground := Ground.chain }, { on := 0, ground := Ground.phase }, { on := 1, ground := Ground.phase }, { on := 2, ground := Ground.phase }, { on := 3, ground := Ground.phase }, { on := 4, ground := Ground.phase }, { on := 5, ground := Ground.phase }, { on := 6, ground := Ground.phase }], guard := none } : Oper), ({ dst := some 5, op := Op.assign (Operand.const (Value.int IntKind.i64 0)), type := 3, pos := "l14_machine.go:14", after := #[{ on := 7, ground := Ground.chain }, { on := 0, ground := Ground.phase }, { on := 1, ground := Ground.phase }, { on := 2, ground := Ground.phase }, { on := 3, ground := Ground.phase }, { on := 4, ground := Ground.phase }, { on := 5, ground := Ground.phase }, { on := 6, ground := Ground.phase }, { on := 7, ground := Ground.phase }], guard := none } : Oper)] true).wp Tryd.prog Q A w1 := by
  show (Code.region 7 nm_O true).wp Tryd.prog Q A w1
  refine wp_region_slots (E := Value) (nm_V O b6 b8 M d vr vm vd) (nm_J w1 O b6 b8 M d vr vm vd) (by kernel_rfl) (by kernel_rfl) (by kernel_rfl) (fun i s hi => ?_) ?_ undef ⟨OutD.of_below (Below.refl _ _).drew, (show Blk w1.drew O mcZ from qO.drew), fun h => (by cases h), fun h => (by rcases h with h | h <;> cases h)⟩ ?_
  · cases hc : ([27, 28, 29, 30, 31, 32, 33, 5] : List Nat).contains s
    · exact absurd hi (nm_no hc i)
    · have : s ∈ ([27, 28, 29, 30, 31, 32, 33, 5] : List Nat) := by simpa using hc
      simp only [List.mem_cons, List.not_mem_nil, or_false] at this
      omega
  · intro f e a w i o hi ho hun hdep hJ hFr K hK
    have hi8 : i < 9 := hi
    rcases (by omega : i = 0 ∨ i = 1 ∨ i = 2 ∨ i = 3 ∨ i = 4 ∨ i = 5 ∨ i = 6 ∨ i = 7 ∨ i = 8) with rfl | rfl | rfl | rfl | rfl | rfl | rfl | rfl | rfl
    · obtain rfl := Option.some.inj ho
      exact nm_s0 A w1 Q O b6 b8 M d vr vm vd h4 h6 h8 qO q6 q8 n6 n8 o1 o2 o3 hC hP hS f e a w hun hdep hJ hFr K hK
    · obtain rfl := Option.some.inj ho
      exact nm_s1 A w1 Q O b6 b8 M d vr vm vd h4 h6 h8 qO q6 q8 n6 n8 o1 o2 o3 hC hP hS f e a w hun hdep hJ hFr K hK
    · obtain rfl := Option.some.inj ho
      exact nm_s2 A w1 Q O b6 b8 M d vr vm vd h4 h6 h8 qO q6 q8 n6 n8 o1 o2 o3 hC hP hS f e a w hun hdep hJ hFr K hK
    · obtain rfl := Option.some.inj ho
      exact nm_s3 A w1 Q O b6 b8 M d vr vm vd h4 h6 h8 qO q6 q8 n6 n8 o1 o2 o3 hC hP hS f e a w hun hdep hJ hFr K hK
    · obtain rfl := Option.some.inj ho
      exact nm_s4 A w1 Q O b6 b8 M d vr vm vd h4 h6 h8 qO q6 q8 n6 n8 o1 o2 o3 hC hP hS f e a w hun hdep hJ hFr K hK
    · obtain rfl := Option.some.inj ho
      exact nm_s5 A w1 Q O b6 b8 M d vr vm vd h4 h6 h8 qO q6 q8 n6 n8 o1 o2 o3 hC hP hS f e a w hun hdep hJ hFr K hK
    · obtain rfl := Option.some.inj ho
      exact nm_s6 A w1 Q O b6 b8 M d vr vm vd h4 h6 h8 qO q6 q8 n6 n8 o1 o2 o3 hC hP hS f e a w hun hdep hJ hFr K hK
    · obtain rfl := Option.some.inj ho
      exact nm_s7 A w1 Q O b6 b8 M d vr vm vd h4 h6 h8 qO q6 q8 n6 n8 o1 o2 o3 hC hP hS f e a w hun hdep hJ hFr K hK
    · obtain rfl := Option.some.inj ho
      exact nm_s8 A w1 Q O b6 b8 M d vr vm vd h4 h6 h8 qO q6 q8 n6 n8 o1 o2 o3 hC hP hS f e a w hun hdep hJ hFr K hK
  · intro f e a w hall hJ hFr
    have := h w e hJ.1 (show Blk w O (mcA (nmX M d) vr vm vd e) from by have := hJ.2.1; rwa [if_pos (hall 7 (by decide))] at this) (hJ.2.2.1 (hall 5 (by decide)))
    rw [hFr.eq [(27, cuV cuNew), (28, .agg (mcC vr vm M).toArray), (29, poV neP), (30, sgV neS), (31, .agg (dkL vd d).toArray), (32, e), (33, (.agg (mcA (nmX M d) vr vm vd e))), (5, .int .i64 0)] (fun s hs => ?_) (fun i s hi => ?_)]
    · exact this
    · have hne : ∀ k ∈ ([27, 28, 29, 30, 31, 32, 33, 5] : List Nat), k ≠ s := by
        intro k hk e2
        subst e2
        simp only [List.mem_cons, List.not_mem_nil, or_false] at hk
        rcases hk with rfl | rfl | rfl | rfl | rfl | rfl | rfl | rfl
        · exact hs 0 rfl
        · exact hs 1 rfl
        · exact hs 2 rfl
        · exact hs 3 rfl
        · exact hs 4 rfl
        · exact hs 5 rfl
        · exact hs 6 rfl
        · exact hs 8 rfl
      simp only [lookA]
      simp [hne]
    · have hl : i < 9 := by
        rcases Nat.lt_or_ge i 9 with h1 | h1
        · exact h1
        · unfold dstAt at hi
          rw [Array.getElem?_eq_none (by exact h1)] at hi
          cases hi
      refine ⟨hall i hl, ?_⟩
      rcases (by omega : i = 0 ∨ i = 1 ∨ i = 2 ∨ i = 3 ∨ i = 4 ∨ i = 5 ∨ i = 6 ∨ i = 7 ∨ i = 8) with rfl | rfl | rfl | rfl | rfl | rfl | rfl | rfl | rfl
      all_goals first
        | (cases hi; rfl)
        | cases hi
end Go.Proofs.YtifcdojaocndhaaDoor
