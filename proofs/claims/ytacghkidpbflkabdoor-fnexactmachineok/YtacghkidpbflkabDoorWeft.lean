/- The law of MachineOK: its drawn statement. -/
import Derived.Test.YtacghkidpbflkabDoorT37
import Derived.Test.YtacghkidpbflkabDoorWeet
import Derived.Test.YtacghkidpbflkabDoorT12
namespace Go.Proofs.YtacghkidpbflkabDoor
open Go.ChangeShapes Go.WideShapes Go.ChangeAt Go.RowKit
set_option linter.unusedVariables false
set_option linter.unusedSimpArgs false

theorem SmallMc.fit {x : Mc} (h : SmallMc x) : FitMc x := ⟨⟨by have := h.m.1; omega, by have := h.m.2.1; omega, fun i hi => by have := h.m.rows i hi; omega⟩, h.d, h.e⟩
theorem tomcB (x : Mc) (v : Value) (w : World) (h : MacB w v x) (hs : SmallMc x) : Calls Tryd.prog 25 #[v] w fun e w' => ∃ ur um ud ue, e = .returned (mcV x ur um ud ue) ∧ MacB w' (mcV x ur um ud ue) x ∧ Below w.heap.size w w' := by
  refine (tomc x v w h hs).mono ?_
  rintro e w' ⟨ur, um, ud, g, m1, m2, L, rfl, S⟩
  exact ⟨ur, um, ud, _, rfl, ⟨ur, um, ud, _, rfl, MemO.reads (S.at 2 rfl), OwnI.read (S.at 1 rfl), EvO.read (S.at 0 rfl)⟩, S.bel⟩
def w1f_V (bX bA : Nat) (x : Mc) (ur um ud ue vr vm vd ve : Value) : Nat → Value → Value := fun i e => match i with
  | 0 => (.agg (mcA x ur um ud ue))
  | 1 => (.agg (mcA x vr vm vd ve))
  | 2 => e
  | 3 => .bool true
  | 4 => .bool false
  | _ => undef
def w1f_J (w1 : World) (bX bA : Nat) (x : Mc) (ur um ud ue vr vm vd ve : Value) (f : Nat → Bool) (e : Value) (w : World) : Prop :=
  Below w1.heap.size w1 w ∧ (f 2 = true → MacB w e x)
def w1f_o0 : Oper := ({ dst := some 22, op := Op.load 50 (Operand.tmp 5), type := 50, pos := "exact.go:3119", after := #[], guard := none } : Oper)
def w1f_o1 : Oper := ({ dst := some 23, op := Op.load 65 (Operand.tmp 1), type := 65, pos := "exact.go:3119", after := #[], guard := none } : Oper)
def w1f_o2 : Oper := ({ dst := some 24, op := Op.call { callee := Callee.value (Operand.func 25), args := #[Operand.tmp 23], argTypes := #[65] }, type := 50, pos := "exact.go:3119", after := #[{ on := 1, ground := Ground.data }], guard := none } : Oper)
def w1f_o3 : Oper := ({ dst := some 25, op := Op.call { callee := Callee.value (Operand.func 18), args := #[Operand.tmp 22, Operand.tmp 24], argTypes := #[50, 50] }, type := 4, pos := "exact.go:3119", after := #[{ on := 0, ground := Ground.data }, { on := 2, ground := Ground.data }, { on := 2, ground := Ground.chain }], guard := none } : Oper)
def w1f_o4 : Oper := ({ dst := some 26, op := Op.unOp UnOp.not 4 (Operand.tmp 25), type := 4, pos := "exact.go:3119", after := #[{ on := 3, ground := Ground.data }], guard := none } : Oper)
def w1f_O : Array Oper := #[w1f_o0, w1f_o1, w1f_o2, w1f_o3, w1f_o4]
theorem w1f_no {s : Nat} (h : ([22, 23, 24, 25, 26] : List Nat).contains s = false) : ∀ i, dstAt w1f_O i ≠ some s := by
  intro i hi
  have hl : i < 5 := by
    rcases Nat.lt_or_ge i 5 with h1 | h1
    · exact h1
    · unfold dstAt at hi
      rw [Array.getElem?_eq_none (by exact h1)] at hi
      cases hi
  rcases (by omega : i = 0 ∨ i = 1 ∨ i = 2 ∨ i = 3 ∨ i = 4) with rfl | rfl | rfl | rfl | rfl
  all_goals first
    | (cases hi; simp at h)
    | cases hi
theorem w1f_keep (bX bA : Nat) (x : Mc) (ur um ud ue vr vm vd ve : Value) {f : Nat → Bool} (e : Value) (u : Value) (hn : f 2 = false) : ∀ j, f j = true → w1f_V bX bA x ur um ud ue vr vm vd ve j u = w1f_V bX bA x ur um ud ue vr vm vd ve j e := by
  intro j hj
  unfold w1f_V
  split
  · rfl
  · rfl
  · rw [hn] at hj; cases hj
  · rfl
  · rfl
  · rfl
set_option maxRecDepth 100000 in
set_option maxHeartbeats 2000000 in
theorem w1f_s0 (A : Act) (w1 : World) (Q : Exit → Act → World → Prop) (bX bA : Nat) (x : Mc) (ur um ud ue vr vm vd ve : Value) 
    (hx : A.tmps.getD 5 undef = .pointer (some ⟨bX, 0, none⟩)) (ha : A.tmps.getD 1 undef = .pointer (some ⟨bA, 0, none⟩)) (qX : Blk w1 bX (mcA x ur um ud ue)) (qA : Blk w1 bA (mcA x vr vm vd ve)) (hT : ∀ W, Below w1.heap.size w1 W → Calls Tryd.prog 25 #[.agg (mcA x vr vm vd ve)] W fun r w' => ∃ v, r = .returned v ∧ MacB w' v x ∧ Below W.heap.size W w') (hE : ∀ W v, Below w1.heap.size w1 W → MacB W v x → Calls Tryd.prog 18 #[.agg (mcA x ur um ud ue), v] W fun r w' => r = .returned (.bool true) ∧ Below W.heap.size W w')
    (f : Nat → Bool) (e : Value) (a : Act) (w : World) (hun : f 0 = false) (hdep : ∀ d ∈ w1f_o0.after, Region.binds .any d = true → f d.on = true) (hJ : w1f_J w1 bX bA x ur um ud ue vr vm vd ve f e w) (hFr : Fr w1f_O A f (fun j => w1f_V bX bA x ur um ud ue vr vm vd ve j e) a)
    (K : Act → World → Prop) (hK : Hid (∀ v e' w', v = w1f_V bX bA x ur um ud ue vr vm vd ve 0 e' → (∀ j, f j = true → w1f_V bX bA x ur um ud ue vr vm vd ve j e' = w1f_V bX bA x ur um ud ue vr vm vd ve j e) → w1f_J w1 bX bA x ur um ud ue vr vm vd ve (fun j => j == 0 || f j) e' w' → K (a.put w1f_o0.dst v) w')) :
    if Region.wanted w1f_o0 (yielded w1f_O a.tmps) = true then Oper.wp Tryd.prog w1f_o0 a w K Q else K (a.put w1f_o0.dst undef) w := by
  unfold w1f_o0 at hdep hK ⊢
  have hK9 := hK
  obtain ⟨hB, j2⟩ := hJ
  have v5 := (hFr.old 5 (w1f_no (by decide))).trans hx
  have x0 := mc_all (qX.below hB qX.lt)
  rw [if_pos (show Region.wanted _ _ = true from rfl)]
  refine wp_load_mid 50 _ rfl bX 0 v5 (mcA x ur um ud ue).toList _ x0 Tryd.underlying50 rfl (szMc _ _ _ _ _) ?_
  exact hK9.out _ e _ rfl (fun _ _ => rfl) ⟨hB, j2⟩
set_option maxRecDepth 100000 in
set_option maxHeartbeats 2000000 in
theorem w1f_s1 (A : Act) (w1 : World) (Q : Exit → Act → World → Prop) (bX bA : Nat) (x : Mc) (ur um ud ue vr vm vd ve : Value) 
    (hx : A.tmps.getD 5 undef = .pointer (some ⟨bX, 0, none⟩)) (ha : A.tmps.getD 1 undef = .pointer (some ⟨bA, 0, none⟩)) (qX : Blk w1 bX (mcA x ur um ud ue)) (qA : Blk w1 bA (mcA x vr vm vd ve)) (hT : ∀ W, Below w1.heap.size w1 W → Calls Tryd.prog 25 #[.agg (mcA x vr vm vd ve)] W fun r w' => ∃ v, r = .returned v ∧ MacB w' v x ∧ Below W.heap.size W w') (hE : ∀ W v, Below w1.heap.size w1 W → MacB W v x → Calls Tryd.prog 18 #[.agg (mcA x ur um ud ue), v] W fun r w' => r = .returned (.bool true) ∧ Below W.heap.size W w')
    (f : Nat → Bool) (e : Value) (a : Act) (w : World) (hun : f 1 = false) (hdep : ∀ d ∈ w1f_o1.after, Region.binds .any d = true → f d.on = true) (hJ : w1f_J w1 bX bA x ur um ud ue vr vm vd ve f e w) (hFr : Fr w1f_O A f (fun j => w1f_V bX bA x ur um ud ue vr vm vd ve j e) a)
    (K : Act → World → Prop) (hK : Hid (∀ v e' w', v = w1f_V bX bA x ur um ud ue vr vm vd ve 1 e' → (∀ j, f j = true → w1f_V bX bA x ur um ud ue vr vm vd ve j e' = w1f_V bX bA x ur um ud ue vr vm vd ve j e) → w1f_J w1 bX bA x ur um ud ue vr vm vd ve (fun j => j == 1 || f j) e' w' → K (a.put w1f_o1.dst v) w')) :
    if Region.wanted w1f_o1 (yielded w1f_O a.tmps) = true then Oper.wp Tryd.prog w1f_o1 a w K Q else K (a.put w1f_o1.dst undef) w := by
  unfold w1f_o1 at hdep hK ⊢
  have hK9 := hK
  obtain ⟨hB, j2⟩ := hJ
  have v1 := (hFr.old 1 (w1f_no (by decide))).trans ha
  have x0 := mc_all (qA.below hB qA.lt)
  rw [if_pos (show Region.wanted _ _ = true from rfl)]
  refine wp_load_mid 65 _ rfl bA 0 v1 (mcA x vr vm vd ve).toList _ x0 Tryd.underlying65 rfl (szLMc _ _ _ _ _) ?_
  exact hK9.out _ e _ rfl (fun _ _ => rfl) ⟨hB, j2⟩
set_option maxRecDepth 100000 in
set_option maxHeartbeats 2000000 in
theorem w1f_s2 (A : Act) (w1 : World) (Q : Exit → Act → World → Prop) (bX bA : Nat) (x : Mc) (ur um ud ue vr vm vd ve : Value) 
    (hx : A.tmps.getD 5 undef = .pointer (some ⟨bX, 0, none⟩)) (ha : A.tmps.getD 1 undef = .pointer (some ⟨bA, 0, none⟩)) (qX : Blk w1 bX (mcA x ur um ud ue)) (qA : Blk w1 bA (mcA x vr vm vd ve)) (hT : ∀ W, Below w1.heap.size w1 W → Calls Tryd.prog 25 #[.agg (mcA x vr vm vd ve)] W fun r w' => ∃ v, r = .returned v ∧ MacB w' v x ∧ Below W.heap.size W w') (hE : ∀ W v, Below w1.heap.size w1 W → MacB W v x → Calls Tryd.prog 18 #[.agg (mcA x ur um ud ue), v] W fun r w' => r = .returned (.bool true) ∧ Below W.heap.size W w')
    (f : Nat → Bool) (e : Value) (a : Act) (w : World) (hun : f 2 = false) (hdep : ∀ d ∈ w1f_o2.after, Region.binds .any d = true → f d.on = true) (hJ : w1f_J w1 bX bA x ur um ud ue vr vm vd ve f e w) (hFr : Fr w1f_O A f (fun j => w1f_V bX bA x ur um ud ue vr vm vd ve j e) a)
    (K : Act → World → Prop) (hK : Hid (∀ v e' w', v = w1f_V bX bA x ur um ud ue vr vm vd ve 2 e' → (∀ j, f j = true → w1f_V bX bA x ur um ud ue vr vm vd ve j e' = w1f_V bX bA x ur um ud ue vr vm vd ve j e) → w1f_J w1 bX bA x ur um ud ue vr vm vd ve (fun j => j == 2 || f j) e' w' → K (a.put w1f_o2.dst v) w')) :
    if Region.wanted w1f_o2 (yielded w1f_O a.tmps) = true then Oper.wp Tryd.prog w1f_o2 a w K Q else K (a.put w1f_o2.dst undef) w := by
  unfold w1f_o2 at hdep hK ⊢
  have hK9 := hK
  obtain ⟨hB, j2⟩ := hJ
  have k1 : f 1 = true := hdep { on := 1, ground := .data } (by simp) rfl
  have v23 : a.tmps.getD 23 undef = (.agg (mcA x vr vm vd ve)) := hFr.new 1 23 rfl k1
  replace hB := hid hB
  replace j2 := hid j2
  replace hT := hid hT
  replace hE := hid hE
  replace qX := hid qX
  replace qA := hid qA
  clear hdep hFr hx ha
  go_simp
  go_at_call 25
  refine (hT.out w hB.out).mono ?_
  rintro r w' ⟨u, rfl, hm', hb'⟩
  replace hm' := hid hm'
  replace hb' := hid hb'
  go_simp
  exact hK9.out _ u _ rfl (w1f_keep bX bA x ur um ud ue vr vm vd ve e u hun) ⟨new_trans hB.out hb'.out, fun _ => hm'.out⟩
set_option maxRecDepth 100000 in
set_option maxHeartbeats 2000000 in
theorem w1f_s3 (A : Act) (w1 : World) (Q : Exit → Act → World → Prop) (bX bA : Nat) (x : Mc) (ur um ud ue vr vm vd ve : Value) 
    (hx : A.tmps.getD 5 undef = .pointer (some ⟨bX, 0, none⟩)) (ha : A.tmps.getD 1 undef = .pointer (some ⟨bA, 0, none⟩)) (qX : Blk w1 bX (mcA x ur um ud ue)) (qA : Blk w1 bA (mcA x vr vm vd ve)) (hT : ∀ W, Below w1.heap.size w1 W → Calls Tryd.prog 25 #[.agg (mcA x vr vm vd ve)] W fun r w' => ∃ v, r = .returned v ∧ MacB w' v x ∧ Below W.heap.size W w') (hE : ∀ W v, Below w1.heap.size w1 W → MacB W v x → Calls Tryd.prog 18 #[.agg (mcA x ur um ud ue), v] W fun r w' => r = .returned (.bool true) ∧ Below W.heap.size W w')
    (f : Nat → Bool) (e : Value) (a : Act) (w : World) (hun : f 3 = false) (hdep : ∀ d ∈ w1f_o3.after, Region.binds .any d = true → f d.on = true) (hJ : w1f_J w1 bX bA x ur um ud ue vr vm vd ve f e w) (hFr : Fr w1f_O A f (fun j => w1f_V bX bA x ur um ud ue vr vm vd ve j e) a)
    (K : Act → World → Prop) (hK : Hid (∀ v e' w', v = w1f_V bX bA x ur um ud ue vr vm vd ve 3 e' → (∀ j, f j = true → w1f_V bX bA x ur um ud ue vr vm vd ve j e' = w1f_V bX bA x ur um ud ue vr vm vd ve j e) → w1f_J w1 bX bA x ur um ud ue vr vm vd ve (fun j => j == 3 || f j) e' w' → K (a.put w1f_o3.dst v) w')) :
    if Region.wanted w1f_o3 (yielded w1f_O a.tmps) = true then Oper.wp Tryd.prog w1f_o3 a w K Q else K (a.put w1f_o3.dst undef) w := by
  unfold w1f_o3 at hdep hK ⊢
  have hK9 := hK
  obtain ⟨hB, j2⟩ := hJ
  have k0 : f 0 = true := hdep { on := 0, ground := .data } (by simp) rfl
  have v22 : a.tmps.getD 22 undef = (.agg (mcA x ur um ud ue)) := hFr.new 0 22 rfl k0
  have k2 : f 2 = true := hdep { on := 2, ground := .data } (by simp) rfl
  have v24 : a.tmps.getD 24 undef = e := hFr.new 2 24 rfl k2
  have r2 := hid (j2 k2)
  replace hB := hid hB
  replace j2 := hid j2
  replace hT := hid hT
  replace hE := hid hE
  replace qX := hid qX
  replace qA := hid qA
  clear hdep hFr hx ha
  go_simp
  go_at_call 18
  refine (hE.out w _ hB.out r2.out).mono ?_
  rintro r w' ⟨rfl, hb'⟩
  replace hb' := hid hb'
  go_simp
  exact hK9.out _ e _ rfl (fun _ _ => rfl) ⟨new_trans hB.out hb'.out, fun h => (j2.out h).below hb'.out⟩
set_option maxRecDepth 100000 in
set_option maxHeartbeats 2000000 in
theorem w1f_s4 (A : Act) (w1 : World) (Q : Exit → Act → World → Prop) (bX bA : Nat) (x : Mc) (ur um ud ue vr vm vd ve : Value) 
    (hx : A.tmps.getD 5 undef = .pointer (some ⟨bX, 0, none⟩)) (ha : A.tmps.getD 1 undef = .pointer (some ⟨bA, 0, none⟩)) (qX : Blk w1 bX (mcA x ur um ud ue)) (qA : Blk w1 bA (mcA x vr vm vd ve)) (hT : ∀ W, Below w1.heap.size w1 W → Calls Tryd.prog 25 #[.agg (mcA x vr vm vd ve)] W fun r w' => ∃ v, r = .returned v ∧ MacB w' v x ∧ Below W.heap.size W w') (hE : ∀ W v, Below w1.heap.size w1 W → MacB W v x → Calls Tryd.prog 18 #[.agg (mcA x ur um ud ue), v] W fun r w' => r = .returned (.bool true) ∧ Below W.heap.size W w')
    (f : Nat → Bool) (e : Value) (a : Act) (w : World) (hun : f 4 = false) (hdep : ∀ d ∈ w1f_o4.after, Region.binds .any d = true → f d.on = true) (hJ : w1f_J w1 bX bA x ur um ud ue vr vm vd ve f e w) (hFr : Fr w1f_O A f (fun j => w1f_V bX bA x ur um ud ue vr vm vd ve j e) a)
    (K : Act → World → Prop) (hK : Hid (∀ v e' w', v = w1f_V bX bA x ur um ud ue vr vm vd ve 4 e' → (∀ j, f j = true → w1f_V bX bA x ur um ud ue vr vm vd ve j e' = w1f_V bX bA x ur um ud ue vr vm vd ve j e) → w1f_J w1 bX bA x ur um ud ue vr vm vd ve (fun j => j == 4 || f j) e' w' → K (a.put w1f_o4.dst v) w')) :
    if Region.wanted w1f_o4 (yielded w1f_O a.tmps) = true then Oper.wp Tryd.prog w1f_o4 a w K Q else K (a.put w1f_o4.dst undef) w := by
  unfold w1f_o4 at hdep hK ⊢
  have hK9 := hK
  obtain ⟨hB, j2⟩ := hJ
  have k3 : f 3 = true := hdep { on := 3, ground := .data } (by simp) rfl
  have v25 : a.tmps.getD 25 undef = .bool true := hFr.new 3 25 rfl k3
  replace hB := hid hB
  replace j2 := hid j2
  replace hT := hid hT
  replace hE := hid hE
  replace qX := hid qX
  replace qA := hid qA
  clear hdep hFr hx ha
  go_simp
  exact hK9.out _ e _ rfl (fun _ _ => rfl) ⟨hB.out, j2.out⟩
set_option maxRecDepth 100000 in
set_option maxHeartbeats 4000000 in
theorem w1f_reg (A : Act) (w1 : World) (Q : Exit → Act → World → Prop) (bX bA : Nat) (x : Mc) (ur um ud ue vr vm vd ve : Value) 
    (hx : A.tmps.getD 5 undef = .pointer (some ⟨bX, 0, none⟩)) (ha : A.tmps.getD 1 undef = .pointer (some ⟨bA, 0, none⟩)) (qX : Blk w1 bX (mcA x ur um ud ue)) (qA : Blk w1 bA (mcA x vr vm vd ve)) (hT : ∀ W, Below w1.heap.size w1 W → Calls Tryd.prog 25 #[.agg (mcA x vr vm vd ve)] W fun r w' => ∃ v, r = .returned v ∧ MacB w' v x ∧ Below W.heap.size W w') (hE : ∀ W v, Below w1.heap.size w1 W → MacB W v x → Calls Tryd.prog 18 #[.agg (mcA x ur um ud ue), v] W fun r w' => r = .returned (.bool true) ∧ Below W.heap.size W w') (hN : 27 ≤ A.tmps.size)
    (h : ∀ (w : World) (e : Value), Below w1.heap.size w1 w → Q .normal (putsA A [(22, (.agg (mcA x ur um ud ue))), (23, (.agg (mcA x vr vm vd ve))), (24, e), (25, .bool true), (26, .bool false)]) w) :
    (Code.region 10 #[({ dst := some 22, op := Op.load 50 (Operand.tmp 5), type := 50, pos := "exact.go:3119", after := #[], guard := none } : Oper), ({ dst := some 23, op := Op.load 65 (Operand.tmp 1), type := 65, pos := "exact.go:3119", after := #[], guard := none } : Oper), ({ dst := some 24, op := Op.call { callee := Callee.value (Operand.func 25), args := #[Operand.tmp 23], argTypes := #[65] }, type := 50, pos := "exact.go:3119", after := #[{ on := 1, ground := Ground.data }], guard := none } : Oper), ({ dst := some 25, op := Op.call { callee := Callee.value (Operand.func 18), args := #[Operand.tmp 22, Operand.tmp 24], argTypes := #[50, 50] }, type := 4, pos := "exact.go:3119", after := #[{ on := 0, ground := Ground.data }, { on := 2, ground := Ground.data }, { on := 2, ground := Ground.chain }], guard := none } : Oper), ({ dst := some 26, op := Op.unOp UnOp.not 4 (Operand.tmp 25), type := 4, pos := "exact.go:3119", after := #[{ on := 3, ground := Ground.data }], guard := none } : Oper)] true).wp Tryd.prog Q A w1 := by
  show (Code.region 10 w1f_O true).wp Tryd.prog Q A w1
  refine wp_region_slots (E := Value) (w1f_V bX bA x ur um ud ue vr vm vd ve) (w1f_J w1 bX bA x ur um ud ue vr vm vd ve) (by kernel_rfl) (by kernel_rfl) (by kernel_rfl) (fun i s hi => ?_) ?_ undef ⟨(Below.refl _ _).drew, fun h => (by cases h)⟩ ?_
  · cases hc : ([22, 23, 24, 25, 26] : List Nat).contains s
    · exact absurd hi (w1f_no hc i)
    · have : s ∈ ([22, 23, 24, 25, 26] : List Nat) := by simpa using hc
      simp only [List.mem_cons, List.not_mem_nil, or_false] at this
      omega
  · intro f e a w i o hi ho hun hdep hJ hFr K hK
    have hi8 : i < 5 := hi
    rcases (by omega : i = 0 ∨ i = 1 ∨ i = 2 ∨ i = 3 ∨ i = 4) with rfl | rfl | rfl | rfl | rfl
    · obtain rfl := Option.some.inj ho
      exact w1f_s0 A w1 Q bX bA x ur um ud ue vr vm vd ve hx ha qX qA hT hE f e a w hun hdep hJ hFr K hK
    · obtain rfl := Option.some.inj ho
      exact w1f_s1 A w1 Q bX bA x ur um ud ue vr vm vd ve hx ha qX qA hT hE f e a w hun hdep hJ hFr K hK
    · obtain rfl := Option.some.inj ho
      exact w1f_s2 A w1 Q bX bA x ur um ud ue vr vm vd ve hx ha qX qA hT hE f e a w hun hdep hJ hFr K hK
    · obtain rfl := Option.some.inj ho
      exact w1f_s3 A w1 Q bX bA x ur um ud ue vr vm vd ve hx ha qX qA hT hE f e a w hun hdep hJ hFr K hK
    · obtain rfl := Option.some.inj ho
      exact w1f_s4 A w1 Q bX bA x ur um ud ue vr vm vd ve hx ha qX qA hT hE f e a w hun hdep hJ hFr K hK
  · intro f e a w hall hJ hFr
    have := h w e hJ.1
    rw [hFr.eq [(22, (.agg (mcA x ur um ud ue))), (23, (.agg (mcA x vr vm vd ve))), (24, e), (25, .bool true), (26, .bool false)] (fun s hs => ?_) (fun i s hi => ?_)]
    · exact this
    · have hne : ∀ k ∈ ([22, 23, 24, 25, 26] : List Nat), k ≠ s := by
        intro k hk e2
        subst e2
        simp only [List.mem_cons, List.not_mem_nil, or_false] at hk
        rcases hk with rfl | rfl | rfl | rfl | rfl
        · exact hs 0 rfl
        · exact hs 1 rfl
        · exact hs 2 rfl
        · exact hs 3 rfl
        · exact hs 4 rfl
      simp only [lookA]
      simp [hne]
    · have hl : i < 5 := by
        rcases Nat.lt_or_ge i 5 with h1 | h1
        · exact h1
        · unfold dstAt at hi
          rw [Array.getElem?_eq_none (by exact h1)] at hi
          cases hi
      refine ⟨hall i hl, ?_⟩
      rcases (by omega : i = 0 ∨ i = 1 ∨ i = 2 ∨ i = 3 ∨ i = 4) with rfl | rfl | rfl | rfl | rfl
      all_goals first
        | (cases hi; rfl)
        | cases hi
end Go.Proofs.YtacghkidpbflkabDoor
