/- The laws of snapshots: their drawn statements. -/
import Derived.Test.YtghcagibdcblnaaEjs
import Derived.Test.YtghcagibdcblnaaEks
namespace Go.Proofs.Ytghcagibdcblnaa
open Go.ChangeShapes Go.WideShapes Go.ChangeAt Go.RowKit
set_option linter.unusedVariables false
set_option linter.unusedSimpArgs false

theorem Small.fitS {s : Sn} (h : Small s.m) : SmallS s := ⟨by have := h.1; omega, by have := h.2.1; omega, h.rows⟩
theorem szLS (s : Sn) (vr vm : Value) : (Try.prog.info? 32).map (·.size) = some (snA s vr vm).toList.length := by
  show _ = some 31
  kernel_rfl
set_option maxRecDepth 100000 in
theorem snapB_in {H : Type} {enc : TypeId × Value → H} {W : World} {base b0 : Nat} {held : Bool} {r : Reach} {v : Value} {d : DataW H} {p : List MemPlace}
    (hv : Value.okWide Try.prog W r b0 32 v) (h : DataW.Trod enc Try.prog W base (fun _ => true) held 32 v d p) : ∃ s : Sn, SnB W v s := by
  obtain ⟨s, vr, vm, e, m, b⟩ := snap_in hv h
  exact ⟨s, vr, vm, e, m, b⟩
def n1_V (bX bA : Nat) (s : Sn) (ux mx vr vm : Value) : Nat → Value × Value → Value := fun i e => match i with
  | 0 => (.agg (snA s ux mx))
  | 1 => (.agg (snA s vr vm))
  | 2 => (.agg (snA s e.1 e.2))
  | 3 => .bool true
  | 4 => .bool false
  | _ => undef
def n1_J (w1 : World) (bX bA : Nat) (s : Sn) (ux mx vr vm : Value) (f : Nat → Bool) (e : Value × Value) (w : World) : Prop :=
  Below w1.heap.size w1 w ∧ (f 2 = true → MemR w (memV e.1 e.2 s.m.page s.m.screen s.m.locked) s.m)
def n1_o0 : Oper := ({ dst := some 22, op := Op.load 39 (Operand.tmp 5), type := 39, pos := "exact.go:2967", after := #[], guard := none } : Oper)
def n1_o1 : Oper := ({ dst := some 23, op := Op.load 32 (Operand.tmp 1), type := 32, pos := "exact.go:2967", after := #[], guard := none } : Oper)
def n1_o2 : Oper := ({ dst := some 24, op := Op.call { callee := Callee.value (Operand.func 8), args := #[Operand.tmp 23], argTypes := #[32] }, type := 39, pos := "exact.go:2967", after := #[{ on := 1, ground := Ground.data }], guard := none } : Oper)
def n1_o3 : Oper := ({ dst := some 25, op := Op.call { callee := Callee.value (Operand.func 10), args := #[Operand.tmp 22, Operand.tmp 24], argTypes := #[39, 39] }, type := 4, pos := "exact.go:2967", after := #[{ on := 0, ground := Ground.data }, { on := 2, ground := Ground.data }, { on := 2, ground := Ground.chain }], guard := none } : Oper)
def n1_o4 : Oper := ({ dst := some 26, op := Op.unOp UnOp.not 4 (Operand.tmp 25), type := 4, pos := "exact.go:2967", after := #[{ on := 3, ground := Ground.data }], guard := none } : Oper)
def n1_O : Array Oper := #[n1_o0, n1_o1, n1_o2, n1_o3, n1_o4]
theorem n1_no {s : Nat} (h : ([22, 23, 24, 25, 26] : List Nat).contains s = false) : ∀ i, dstAt n1_O i ≠ some s := by
  intro i hi
  have hl : i < 5 := by
    rcases Nat.lt_or_ge i 5 with h1 | h1
    · exact h1
    · unfold dstAt at hi
      rw [Array.getElem?_eq_none (by exact h1)] at hi
      cases hi
  rcases (by omega : i = 0 ∨ i = 1 ∨ i = 2 ∨ i = 3 ∨ i = 4) with rfl | rfl | rfl | rfl | rfl
  all_goals first
    | (cases hi; simp at h)
    | cases hi
theorem n1_keep (bX bA : Nat) (s : Sn) (ux mx vr vm : Value) {f : Nat → Bool} (e : Value × Value) (u m : Value) (hn : f 2 = false) : ∀ j, f j = true → n1_V bX bA s ux mx vr vm j (u, m) = n1_V bX bA s ux mx vr vm j e := by
  intro j hj
  unfold n1_V
  split
  · rfl
  · rfl
  · rw [hn] at hj; cases hj
  · rfl
  · rfl
  · rfl
set_option maxRecDepth 100000 in
set_option maxHeartbeats 2000000 in
theorem n1_s0 (A : Act) (w1 : World) (Q : Exit → Act → World → Prop) (bX bA : Nat) (s : Sn) (ux mx vr vm : Value) 
    (hx : A.tmps.getD 5 undef = .pointer (some ⟨bX, 0, none⟩)) (ha : A.tmps.getD 1 undef = .pointer (some ⟨bA, 0, none⟩)) (qX : Blk w1 bX (snA s ux mx)) (qA : Blk w1 bA (snA s vr vm)) (hT : ∀ W, Below w1.heap.size w1 W → Calls Try.prog 8 #[.agg (snA s vr vm)] W fun r w' => ∃ u m, r = .returned (.agg (snA s u m)) ∧ MemR w' (memV u m s.m.page s.m.screen s.m.locked) s.m ∧ Below W.heap.size W w') (hE : ∀ W u m, Below w1.heap.size w1 W → MemR W (memV u m s.m.page s.m.screen s.m.locked) s.m → Calls Try.prog 10 #[.agg (snA s ux mx), .agg (snA s u m)] W fun r w' => r = .returned (.bool true) ∧ Below W.heap.size W w')
    (f : Nat → Bool) (e : Value × Value) (a : Act) (w : World) (hun : f 0 = false) (hdep : ∀ d ∈ n1_o0.after, Region.binds .any d = true → f d.on = true) (hJ : n1_J w1 bX bA s ux mx vr vm f e w) (hFr : Fr n1_O A f (fun j => n1_V bX bA s ux mx vr vm j e) a)
    (K : Act → World → Prop) (hK : Hid (∀ v e' w', v = n1_V bX bA s ux mx vr vm 0 e' → (∀ j, f j = true → n1_V bX bA s ux mx vr vm j e' = n1_V bX bA s ux mx vr vm j e) → n1_J w1 bX bA s ux mx vr vm (fun j => j == 0 || f j) e' w' → K (a.put n1_o0.dst v) w')) :
    if Region.wanted n1_o0 (yielded n1_O a.tmps) = true then Oper.wp Try.prog n1_o0 a w K Q else K (a.put n1_o0.dst undef) w := by
  unfold n1_o0 at hdep hK ⊢
  have hK9 := hK
  obtain ⟨hB, j2⟩ := hJ
  have v5 := (hFr.old 5 (n1_no (by decide))).trans hx
  have x0 := sn_all (qX.below hB qX.lt)
  rw [if_pos (show Region.wanted _ _ = true from rfl)]
  refine wp_load_mid 39 _ rfl bX 0 v5 (snA s ux mx).toList _ x0 Try.underlying39 rfl (szS s ux mx) ?_
  exact hK9.out _ e _ rfl (fun _ _ => rfl) ⟨hB, j2⟩
set_option maxRecDepth 100000 in
set_option maxHeartbeats 2000000 in
theorem n1_s1 (A : Act) (w1 : World) (Q : Exit → Act → World → Prop) (bX bA : Nat) (s : Sn) (ux mx vr vm : Value) 
    (hx : A.tmps.getD 5 undef = .pointer (some ⟨bX, 0, none⟩)) (ha : A.tmps.getD 1 undef = .pointer (some ⟨bA, 0, none⟩)) (qX : Blk w1 bX (snA s ux mx)) (qA : Blk w1 bA (snA s vr vm)) (hT : ∀ W, Below w1.heap.size w1 W → Calls Try.prog 8 #[.agg (snA s vr vm)] W fun r w' => ∃ u m, r = .returned (.agg (snA s u m)) ∧ MemR w' (memV u m s.m.page s.m.screen s.m.locked) s.m ∧ Below W.heap.size W w') (hE : ∀ W u m, Below w1.heap.size w1 W → MemR W (memV u m s.m.page s.m.screen s.m.locked) s.m → Calls Try.prog 10 #[.agg (snA s ux mx), .agg (snA s u m)] W fun r w' => r = .returned (.bool true) ∧ Below W.heap.size W w')
    (f : Nat → Bool) (e : Value × Value) (a : Act) (w : World) (hun : f 1 = false) (hdep : ∀ d ∈ n1_o1.after, Region.binds .any d = true → f d.on = true) (hJ : n1_J w1 bX bA s ux mx vr vm f e w) (hFr : Fr n1_O A f (fun j => n1_V bX bA s ux mx vr vm j e) a)
    (K : Act → World → Prop) (hK : Hid (∀ v e' w', v = n1_V bX bA s ux mx vr vm 1 e' → (∀ j, f j = true → n1_V bX bA s ux mx vr vm j e' = n1_V bX bA s ux mx vr vm j e) → n1_J w1 bX bA s ux mx vr vm (fun j => j == 1 || f j) e' w' → K (a.put n1_o1.dst v) w')) :
    if Region.wanted n1_o1 (yielded n1_O a.tmps) = true then Oper.wp Try.prog n1_o1 a w K Q else K (a.put n1_o1.dst undef) w := by
  unfold n1_o1 at hdep hK ⊢
  have hK9 := hK
  obtain ⟨hB, j2⟩ := hJ
  have v1 := (hFr.old 1 (n1_no (by decide))).trans ha
  have x0 := sn_all (qA.below hB qA.lt)
  rw [if_pos (show Region.wanted _ _ = true from rfl)]
  refine wp_load_mid 32 _ rfl bA 0 v1 (snA s vr vm).toList _ x0 Try.underlying32 rfl (szLS s vr vm) ?_
  exact hK9.out _ e _ rfl (fun _ _ => rfl) ⟨hB, j2⟩
set_option maxRecDepth 100000 in
set_option maxHeartbeats 2000000 in
theorem n1_s2 (A : Act) (w1 : World) (Q : Exit → Act → World → Prop) (bX bA : Nat) (s : Sn) (ux mx vr vm : Value) 
    (hx : A.tmps.getD 5 undef = .pointer (some ⟨bX, 0, none⟩)) (ha : A.tmps.getD 1 undef = .pointer (some ⟨bA, 0, none⟩)) (qX : Blk w1 bX (snA s ux mx)) (qA : Blk w1 bA (snA s vr vm)) (hT : ∀ W, Below w1.heap.size w1 W → Calls Try.prog 8 #[.agg (snA s vr vm)] W fun r w' => ∃ u m, r = .returned (.agg (snA s u m)) ∧ MemR w' (memV u m s.m.page s.m.screen s.m.locked) s.m ∧ Below W.heap.size W w') (hE : ∀ W u m, Below w1.heap.size w1 W → MemR W (memV u m s.m.page s.m.screen s.m.locked) s.m → Calls Try.prog 10 #[.agg (snA s ux mx), .agg (snA s u m)] W fun r w' => r = .returned (.bool true) ∧ Below W.heap.size W w')
    (f : Nat → Bool) (e : Value × Value) (a : Act) (w : World) (hun : f 2 = false) (hdep : ∀ d ∈ n1_o2.after, Region.binds .any d = true → f d.on = true) (hJ : n1_J w1 bX bA s ux mx vr vm f e w) (hFr : Fr n1_O A f (fun j => n1_V bX bA s ux mx vr vm j e) a)
    (K : Act → World → Prop) (hK : Hid (∀ v e' w', v = n1_V bX bA s ux mx vr vm 2 e' → (∀ j, f j = true → n1_V bX bA s ux mx vr vm j e' = n1_V bX bA s ux mx vr vm j e) → n1_J w1 bX bA s ux mx vr vm (fun j => j == 2 || f j) e' w' → K (a.put n1_o2.dst v) w')) :
    if Region.wanted n1_o2 (yielded n1_O a.tmps) = true then Oper.wp Try.prog n1_o2 a w K Q else K (a.put n1_o2.dst undef) w := by
  unfold n1_o2 at hdep hK ⊢
  have hK9 := hK
  obtain ⟨hB, j2⟩ := hJ
  have k1 : f 1 = true := hdep { on := 1, ground := .data } (by simp) rfl
  have v23 : a.tmps.getD 23 undef = (.agg (snA s vr vm)) := hFr.new 1 23 rfl k1
  replace hB := hid hB
  replace j2 := hid j2
  replace hT := hid hT
  replace hE := hid hE
  replace qX := hid qX
  replace qA := hid qA
  clear hdep hFr hx ha
  go_simp
  go_at_call 8
  refine (hT.out w hB.out).mono ?_
  rintro r w' ⟨u, m, rfl, hm', hb'⟩
  replace hm' := hid hm'
  replace hb' := hid hb'
  go_simp
  exact hK9.out _ (u, m) _ rfl (n1_keep bX bA s ux mx vr vm e u m hun) ⟨new_trans hB.out hb'.out, fun _ => hm'.out⟩
set_option maxRecDepth 100000 in
set_option maxHeartbeats 2000000 in
theorem n1_s3 (A : Act) (w1 : World) (Q : Exit → Act → World → Prop) (bX bA : Nat) (s : Sn) (ux mx vr vm : Value) 
    (hx : A.tmps.getD 5 undef = .pointer (some ⟨bX, 0, none⟩)) (ha : A.tmps.getD 1 undef = .pointer (some ⟨bA, 0, none⟩)) (qX : Blk w1 bX (snA s ux mx)) (qA : Blk w1 bA (snA s vr vm)) (hT : ∀ W, Below w1.heap.size w1 W → Calls Try.prog 8 #[.agg (snA s vr vm)] W fun r w' => ∃ u m, r = .returned (.agg (snA s u m)) ∧ MemR w' (memV u m s.m.page s.m.screen s.m.locked) s.m ∧ Below W.heap.size W w') (hE : ∀ W u m, Below w1.heap.size w1 W → MemR W (memV u m s.m.page s.m.screen s.m.locked) s.m → Calls Try.prog 10 #[.agg (snA s ux mx), .agg (snA s u m)] W fun r w' => r = .returned (.bool true) ∧ Below W.heap.size W w')
    (f : Nat → Bool) (e : Value × Value) (a : Act) (w : World) (hun : f 3 = false) (hdep : ∀ d ∈ n1_o3.after, Region.binds .any d = true → f d.on = true) (hJ : n1_J w1 bX bA s ux mx vr vm f e w) (hFr : Fr n1_O A f (fun j => n1_V bX bA s ux mx vr vm j e) a)
    (K : Act → World → Prop) (hK : Hid (∀ v e' w', v = n1_V bX bA s ux mx vr vm 3 e' → (∀ j, f j = true → n1_V bX bA s ux mx vr vm j e' = n1_V bX bA s ux mx vr vm j e) → n1_J w1 bX bA s ux mx vr vm (fun j => j == 3 || f j) e' w' → K (a.put n1_o3.dst v) w')) :
    if Region.wanted n1_o3 (yielded n1_O a.tmps) = true then Oper.wp Try.prog n1_o3 a w K Q else K (a.put n1_o3.dst undef) w := by
  unfold n1_o3 at hdep hK ⊢
  have hK9 := hK
  obtain ⟨hB, j2⟩ := hJ
  have k0 : f 0 = true := hdep { on := 0, ground := .data } (by simp) rfl
  have v22 : a.tmps.getD 22 undef = (.agg (snA s ux mx)) := hFr.new 0 22 rfl k0
  have k2 : f 2 = true := hdep { on := 2, ground := .data } (by simp) rfl
  have v24 : a.tmps.getD 24 undef = (.agg (snA s e.1 e.2)) := hFr.new 2 24 rfl k2
  have r2 := hid (j2 k2)
  replace hB := hid hB
  replace j2 := hid j2
  replace hT := hid hT
  replace hE := hid hE
  replace qX := hid qX
  replace qA := hid qA
  clear hdep hFr hx ha
  go_simp
  go_at_call 10
  refine (hE.out w _ _ hB.out r2.out).mono ?_
  rintro r w' ⟨rfl, hb'⟩
  replace hb' := hid hb'
  go_simp
  exact hK9.out _ e _ rfl (fun _ _ => rfl) ⟨new_trans hB.out hb'.out, fun h => (j2.out h).below hb'.out⟩
set_option maxRecDepth 100000 in
set_option maxHeartbeats 2000000 in
theorem n1_s4 (A : Act) (w1 : World) (Q : Exit → Act → World → Prop) (bX bA : Nat) (s : Sn) (ux mx vr vm : Value) 
    (hx : A.tmps.getD 5 undef = .pointer (some ⟨bX, 0, none⟩)) (ha : A.tmps.getD 1 undef = .pointer (some ⟨bA, 0, none⟩)) (qX : Blk w1 bX (snA s ux mx)) (qA : Blk w1 bA (snA s vr vm)) (hT : ∀ W, Below w1.heap.size w1 W → Calls Try.prog 8 #[.agg (snA s vr vm)] W fun r w' => ∃ u m, r = .returned (.agg (snA s u m)) ∧ MemR w' (memV u m s.m.page s.m.screen s.m.locked) s.m ∧ Below W.heap.size W w') (hE : ∀ W u m, Below w1.heap.size w1 W → MemR W (memV u m s.m.page s.m.screen s.m.locked) s.m → Calls Try.prog 10 #[.agg (snA s ux mx), .agg (snA s u m)] W fun r w' => r = .returned (.bool true) ∧ Below W.heap.size W w')
    (f : Nat → Bool) (e : Value × Value) (a : Act) (w : World) (hun : f 4 = false) (hdep : ∀ d ∈ n1_o4.after, Region.binds .any d = true → f d.on = true) (hJ : n1_J w1 bX bA s ux mx vr vm f e w) (hFr : Fr n1_O A f (fun j => n1_V bX bA s ux mx vr vm j e) a)
    (K : Act → World → Prop) (hK : Hid (∀ v e' w', v = n1_V bX bA s ux mx vr vm 4 e' → (∀ j, f j = true → n1_V bX bA s ux mx vr vm j e' = n1_V bX bA s ux mx vr vm j e) → n1_J w1 bX bA s ux mx vr vm (fun j => j == 4 || f j) e' w' → K (a.put n1_o4.dst v) w')) :
    if Region.wanted n1_o4 (yielded n1_O a.tmps) = true then Oper.wp Try.prog n1_o4 a w K Q else K (a.put n1_o4.dst undef) w := by
  unfold n1_o4 at hdep hK ⊢
  have hK9 := hK
  obtain ⟨hB, j2⟩ := hJ
  have k3 : f 3 = true := hdep { on := 3, ground := .data } (by simp) rfl
  have v25 : a.tmps.getD 25 undef = .bool true := hFr.new 3 25 rfl k3
  replace hB := hid hB
  replace j2 := hid j2
  replace hT := hid hT
  replace hE := hid hE
  replace qX := hid qX
  replace qA := hid qA
  clear hdep hFr hx ha
  go_simp
  exact hK9.out _ e _ rfl (fun _ _ => rfl) ⟨hB.out, j2.out⟩
set_option maxRecDepth 100000 in
set_option maxHeartbeats 4000000 in
theorem n1_reg (A : Act) (w1 : World) (Q : Exit → Act → World → Prop) (bX bA : Nat) (s : Sn) (ux mx vr vm : Value) 
    (hx : A.tmps.getD 5 undef = .pointer (some ⟨bX, 0, none⟩)) (ha : A.tmps.getD 1 undef = .pointer (some ⟨bA, 0, none⟩)) (qX : Blk w1 bX (snA s ux mx)) (qA : Blk w1 bA (snA s vr vm)) (hT : ∀ W, Below w1.heap.size w1 W → Calls Try.prog 8 #[.agg (snA s vr vm)] W fun r w' => ∃ u m, r = .returned (.agg (snA s u m)) ∧ MemR w' (memV u m s.m.page s.m.screen s.m.locked) s.m ∧ Below W.heap.size W w') (hE : ∀ W u m, Below w1.heap.size w1 W → MemR W (memV u m s.m.page s.m.screen s.m.locked) s.m → Calls Try.prog 10 #[.agg (snA s ux mx), .agg (snA s u m)] W fun r w' => r = .returned (.bool true) ∧ Below W.heap.size W w') (hN : 27 ≤ A.tmps.size)
    (h : ∀ (w : World) (e : Value × Value), Below w1.heap.size w1 w → Q .normal (putsA A [(22, (.agg (snA s ux mx))), (23, (.agg (snA s vr vm))), (24, (.agg (snA s e.1 e.2))), (25, .bool true), (26, .bool false)]) w) :
    (Code.region 10 #[({ dst := some 22, op := Op.load 39 (Operand.tmp 5), type := 39, pos := "exact.go:2967", after := #[], guard := none } : Oper), ({ dst := some 23, op := Op.load 32 (Operand.tmp 1), type := 32, pos := "exact.go:2967", after := #[], guard := none } : Oper), ({ dst := some 24, op := Op.call { callee := Callee.value (Operand.func 8), args := #[Operand.tmp 23], argTypes := #[32] }, type := 39, pos := "exact.go:2967", after := #[{ on := 1, ground := Ground.data }], guard := none } : Oper), ({ dst := some 25, op := Op.call { callee := Callee.value (Operand.func 10), args := #[Operand.tmp 22, Operand.tmp 24], argTypes := #[39, 39] }, type := 4, pos := "exact.go:2967", after := #[{ on := 0, ground := Ground.data }, { on := 2, ground := Ground.data }, { on := 2, ground := Ground.chain }], guard := none } : Oper), ({ dst := some 26, op := Op.unOp UnOp.not 4 (Operand.tmp 25), type := 4, pos := "exact.go:2967", after := #[{ on := 3, ground := Ground.data }], guard := none } : Oper)] true).wp Try.prog Q A w1 := by
  show (Code.region 10 n1_O true).wp Try.prog Q A w1
  refine wp_region_slots (E := Value × Value) (n1_V bX bA s ux mx vr vm) (n1_J w1 bX bA s ux mx vr vm) (by kernel_rfl) (by kernel_rfl) (by kernel_rfl) (fun i s hi => ?_) ?_ (undef, undef) ⟨(Below.refl _ _).drew, fun h => (by cases h)⟩ ?_
  · cases hc : ([22, 23, 24, 25, 26] : List Nat).contains s
    · exact absurd hi (n1_no hc i)
    · have : s ∈ ([22, 23, 24, 25, 26] : List Nat) := by simpa using hc
      simp only [List.mem_cons, List.not_mem_nil, or_false] at this
      omega
  · intro f e a w i o hi ho hun hdep hJ hFr K hK
    have hi8 : i < 5 := hi
    rcases (by omega : i = 0 ∨ i = 1 ∨ i = 2 ∨ i = 3 ∨ i = 4) with rfl | rfl | rfl | rfl | rfl
    · obtain rfl := Option.some.inj ho
      exact n1_s0 A w1 Q bX bA s ux mx vr vm hx ha qX qA hT hE f e a w hun hdep hJ hFr K hK
    · obtain rfl := Option.some.inj ho
      exact n1_s1 A w1 Q bX bA s ux mx vr vm hx ha qX qA hT hE f e a w hun hdep hJ hFr K hK
    · obtain rfl := Option.some.inj ho
      exact n1_s2 A w1 Q bX bA s ux mx vr vm hx ha qX qA hT hE f e a w hun hdep hJ hFr K hK
    · obtain rfl := Option.some.inj ho
      exact n1_s3 A w1 Q bX bA s ux mx vr vm hx ha qX qA hT hE f e a w hun hdep hJ hFr K hK
    · obtain rfl := Option.some.inj ho
      exact n1_s4 A w1 Q bX bA s ux mx vr vm hx ha qX qA hT hE f e a w hun hdep hJ hFr K hK
  · intro f e a w hall hJ hFr
    have := h w e hJ.1
    rw [hFr.eq [(22, (.agg (snA s ux mx))), (23, (.agg (snA s vr vm))), (24, (.agg (snA s e.1 e.2))), (25, .bool true), (26, .bool false)] (fun s hs => ?_) (fun i s hi => ?_)]
    · exact this
    · have hne : ∀ k ∈ ([22, 23, 24, 25, 26] : List Nat), k ≠ s := by
        intro k hk e2
        subst e2
        simp only [List.mem_cons, List.not_mem_nil, or_false] at hk
        rcases hk with rfl | rfl | rfl | rfl | rfl
        · exact hs 0 rfl
        · exact hs 1 rfl
        · exact hs 2 rfl
        · exact hs 3 rfl
        · exact hs 4 rfl
      simp only [lookA]
      simp [hne]
    · have hl : i < 5 := by
        rcases Nat.lt_or_ge i 5 with h1 | h1
        · exact h1
        · unfold dstAt at hi
          rw [Array.getElem?_eq_none (by exact h1)] at hi
          cases hi
      refine ⟨hall i hl, ?_⟩
      rcases (by omega : i = 0 ∨ i = 1 ∨ i = 2 ∨ i = 3 ∨ i = 4) with rfl | rfl | rfl | rfl | rfl
      all_goals first
        | (cases hi; rfl)
        | cases hi
def n2_V (bX bA : Nat) (s : Sn) (ux mx vr vm : Value) : Nat → Value × Value → Value := fun i e => match i with
  | 0 => (.agg (snA s ux mx))
  | 1 => (.agg (snA s vr vm))
  | 2 => (.agg (snA s e.1 e.2))
  | 3 => .bool true
  | 4 => .bool false
  | _ => undef
def n2_J (w1 : World) (bX bA : Nat) (s : Sn) (ux mx vr vm : Value) (f : Nat → Bool) (e : Value × Value) (w : World) : Prop :=
  Below w1.heap.size w1 w ∧ (f 2 = true → MemR w (memV e.1 e.2 s.m.page s.m.screen s.m.locked) s.m)
def n2_o0 : Oper := ({ dst := some 35, op := Op.load 39 (Operand.tmp 6), type := 39, pos := "exact.go:2986", after := #[], guard := none } : Oper)
def n2_o1 : Oper := ({ dst := some 36, op := Op.load 32 (Operand.tmp 1), type := 32, pos := "exact.go:2986", after := #[], guard := none } : Oper)
def n2_o2 : Oper := ({ dst := some 37, op := Op.call { callee := Callee.value (Operand.func 8), args := #[Operand.tmp 36], argTypes := #[32] }, type := 39, pos := "exact.go:2986", after := #[{ on := 1, ground := Ground.data }], guard := none } : Oper)
def n2_o3 : Oper := ({ dst := some 38, op := Op.call { callee := Callee.value (Operand.func 10), args := #[Operand.tmp 35, Operand.tmp 37], argTypes := #[39, 39] }, type := 4, pos := "exact.go:2986", after := #[{ on := 0, ground := Ground.data }, { on := 2, ground := Ground.data }, { on := 2, ground := Ground.chain }], guard := none } : Oper)
def n2_o4 : Oper := ({ dst := some 39, op := Op.unOp UnOp.not 4 (Operand.tmp 38), type := 4, pos := "exact.go:2986", after := #[{ on := 3, ground := Ground.data }], guard := none } : Oper)
def n2_O : Array Oper := #[n2_o0, n2_o1, n2_o2, n2_o3, n2_o4]
theorem n2_no {s : Nat} (h : ([35, 36, 37, 38, 39] : List Nat).contains s = false) : ∀ i, dstAt n2_O i ≠ some s := by
  intro i hi
  have hl : i < 5 := by
    rcases Nat.lt_or_ge i 5 with h1 | h1
    · exact h1
    · unfold dstAt at hi
      rw [Array.getElem?_eq_none (by exact h1)] at hi
      cases hi
  rcases (by omega : i = 0 ∨ i = 1 ∨ i = 2 ∨ i = 3 ∨ i = 4) with rfl | rfl | rfl | rfl | rfl
  all_goals first
    | (cases hi; simp at h)
    | cases hi
theorem n2_keep (bX bA : Nat) (s : Sn) (ux mx vr vm : Value) {f : Nat → Bool} (e : Value × Value) (u m : Value) (hn : f 2 = false) : ∀ j, f j = true → n2_V bX bA s ux mx vr vm j (u, m) = n2_V bX bA s ux mx vr vm j e := by
  intro j hj
  unfold n2_V
  split
  · rfl
  · rfl
  · rw [hn] at hj; cases hj
  · rfl
  · rfl
  · rfl
set_option maxRecDepth 100000 in
set_option maxHeartbeats 2000000 in
theorem n2_s0 (A : Act) (w1 : World) (Q : Exit → Act → World → Prop) (bX bA : Nat) (s : Sn) (ux mx vr vm : Value) 
    (hx : A.tmps.getD 6 undef = .pointer (some ⟨bX, 0, none⟩)) (ha : A.tmps.getD 1 undef = .pointer (some ⟨bA, 0, none⟩)) (qX : Blk w1 bX (snA s ux mx)) (qA : Blk w1 bA (snA s vr vm)) (hT : ∀ W, Below w1.heap.size w1 W → Calls Try.prog 8 #[.agg (snA s vr vm)] W fun r w' => ∃ u m, r = .returned (.agg (snA s u m)) ∧ MemR w' (memV u m s.m.page s.m.screen s.m.locked) s.m ∧ Below W.heap.size W w') (hE : ∀ W u m, Below w1.heap.size w1 W → MemR W (memV u m s.m.page s.m.screen s.m.locked) s.m → Calls Try.prog 10 #[.agg (snA s ux mx), .agg (snA s u m)] W fun r w' => r = .returned (.bool true) ∧ Below W.heap.size W w')
    (f : Nat → Bool) (e : Value × Value) (a : Act) (w : World) (hun : f 0 = false) (hdep : ∀ d ∈ n2_o0.after, Region.binds .any d = true → f d.on = true) (hJ : n2_J w1 bX bA s ux mx vr vm f e w) (hFr : Fr n2_O A f (fun j => n2_V bX bA s ux mx vr vm j e) a)
    (K : Act → World → Prop) (hK : Hid (∀ v e' w', v = n2_V bX bA s ux mx vr vm 0 e' → (∀ j, f j = true → n2_V bX bA s ux mx vr vm j e' = n2_V bX bA s ux mx vr vm j e) → n2_J w1 bX bA s ux mx vr vm (fun j => j == 0 || f j) e' w' → K (a.put n2_o0.dst v) w')) :
    if Region.wanted n2_o0 (yielded n2_O a.tmps) = true then Oper.wp Try.prog n2_o0 a w K Q else K (a.put n2_o0.dst undef) w := by
  unfold n2_o0 at hdep hK ⊢
  have hK9 := hK
  obtain ⟨hB, j2⟩ := hJ
  have v6 := (hFr.old 6 (n2_no (by decide))).trans hx
  have x0 := sn_all (qX.below hB qX.lt)
  rw [if_pos (show Region.wanted _ _ = true from rfl)]
  refine wp_load_mid 39 _ rfl bX 0 v6 (snA s ux mx).toList _ x0 Try.underlying39 rfl (szS s ux mx) ?_
  exact hK9.out _ e _ rfl (fun _ _ => rfl) ⟨hB, j2⟩
set_option maxRecDepth 100000 in
set_option maxHeartbeats 2000000 in
theorem n2_s1 (A : Act) (w1 : World) (Q : Exit → Act → World → Prop) (bX bA : Nat) (s : Sn) (ux mx vr vm : Value) 
    (hx : A.tmps.getD 6 undef = .pointer (some ⟨bX, 0, none⟩)) (ha : A.tmps.getD 1 undef = .pointer (some ⟨bA, 0, none⟩)) (qX : Blk w1 bX (snA s ux mx)) (qA : Blk w1 bA (snA s vr vm)) (hT : ∀ W, Below w1.heap.size w1 W → Calls Try.prog 8 #[.agg (snA s vr vm)] W fun r w' => ∃ u m, r = .returned (.agg (snA s u m)) ∧ MemR w' (memV u m s.m.page s.m.screen s.m.locked) s.m ∧ Below W.heap.size W w') (hE : ∀ W u m, Below w1.heap.size w1 W → MemR W (memV u m s.m.page s.m.screen s.m.locked) s.m → Calls Try.prog 10 #[.agg (snA s ux mx), .agg (snA s u m)] W fun r w' => r = .returned (.bool true) ∧ Below W.heap.size W w')
    (f : Nat → Bool) (e : Value × Value) (a : Act) (w : World) (hun : f 1 = false) (hdep : ∀ d ∈ n2_o1.after, Region.binds .any d = true → f d.on = true) (hJ : n2_J w1 bX bA s ux mx vr vm f e w) (hFr : Fr n2_O A f (fun j => n2_V bX bA s ux mx vr vm j e) a)
    (K : Act → World → Prop) (hK : Hid (∀ v e' w', v = n2_V bX bA s ux mx vr vm 1 e' → (∀ j, f j = true → n2_V bX bA s ux mx vr vm j e' = n2_V bX bA s ux mx vr vm j e) → n2_J w1 bX bA s ux mx vr vm (fun j => j == 1 || f j) e' w' → K (a.put n2_o1.dst v) w')) :
    if Region.wanted n2_o1 (yielded n2_O a.tmps) = true then Oper.wp Try.prog n2_o1 a w K Q else K (a.put n2_o1.dst undef) w := by
  unfold n2_o1 at hdep hK ⊢
  have hK9 := hK
  obtain ⟨hB, j2⟩ := hJ
  have v1 := (hFr.old 1 (n2_no (by decide))).trans ha
  have x0 := sn_all (qA.below hB qA.lt)
  rw [if_pos (show Region.wanted _ _ = true from rfl)]
  refine wp_load_mid 32 _ rfl bA 0 v1 (snA s vr vm).toList _ x0 Try.underlying32 rfl (szLS s vr vm) ?_
  exact hK9.out _ e _ rfl (fun _ _ => rfl) ⟨hB, j2⟩
set_option maxRecDepth 100000 in
set_option maxHeartbeats 2000000 in
theorem n2_s2 (A : Act) (w1 : World) (Q : Exit → Act → World → Prop) (bX bA : Nat) (s : Sn) (ux mx vr vm : Value) 
    (hx : A.tmps.getD 6 undef = .pointer (some ⟨bX, 0, none⟩)) (ha : A.tmps.getD 1 undef = .pointer (some ⟨bA, 0, none⟩)) (qX : Blk w1 bX (snA s ux mx)) (qA : Blk w1 bA (snA s vr vm)) (hT : ∀ W, Below w1.heap.size w1 W → Calls Try.prog 8 #[.agg (snA s vr vm)] W fun r w' => ∃ u m, r = .returned (.agg (snA s u m)) ∧ MemR w' (memV u m s.m.page s.m.screen s.m.locked) s.m ∧ Below W.heap.size W w') (hE : ∀ W u m, Below w1.heap.size w1 W → MemR W (memV u m s.m.page s.m.screen s.m.locked) s.m → Calls Try.prog 10 #[.agg (snA s ux mx), .agg (snA s u m)] W fun r w' => r = .returned (.bool true) ∧ Below W.heap.size W w')
    (f : Nat → Bool) (e : Value × Value) (a : Act) (w : World) (hun : f 2 = false) (hdep : ∀ d ∈ n2_o2.after, Region.binds .any d = true → f d.on = true) (hJ : n2_J w1 bX bA s ux mx vr vm f e w) (hFr : Fr n2_O A f (fun j => n2_V bX bA s ux mx vr vm j e) a)
    (K : Act → World → Prop) (hK : Hid (∀ v e' w', v = n2_V bX bA s ux mx vr vm 2 e' → (∀ j, f j = true → n2_V bX bA s ux mx vr vm j e' = n2_V bX bA s ux mx vr vm j e) → n2_J w1 bX bA s ux mx vr vm (fun j => j == 2 || f j) e' w' → K (a.put n2_o2.dst v) w')) :
    if Region.wanted n2_o2 (yielded n2_O a.tmps) = true then Oper.wp Try.prog n2_o2 a w K Q else K (a.put n2_o2.dst undef) w := by
  unfold n2_o2 at hdep hK ⊢
  have hK9 := hK
  obtain ⟨hB, j2⟩ := hJ
  have k1 : f 1 = true := hdep { on := 1, ground := .data } (by simp) rfl
  have v36 : a.tmps.getD 36 undef = (.agg (snA s vr vm)) := hFr.new 1 36 rfl k1
  replace hB := hid hB
  replace j2 := hid j2
  replace hT := hid hT
  replace hE := hid hE
  replace qX := hid qX
  replace qA := hid qA
  clear hdep hFr hx ha
  go_simp
  go_at_call 8
  refine (hT.out w hB.out).mono ?_
  rintro r w' ⟨u, m, rfl, hm', hb'⟩
  replace hm' := hid hm'
  replace hb' := hid hb'
  go_simp
  exact hK9.out _ (u, m) _ rfl (n2_keep bX bA s ux mx vr vm e u m hun) ⟨new_trans hB.out hb'.out, fun _ => hm'.out⟩
set_option maxRecDepth 100000 in
set_option maxHeartbeats 2000000 in
theorem n2_s3 (A : Act) (w1 : World) (Q : Exit → Act → World → Prop) (bX bA : Nat) (s : Sn) (ux mx vr vm : Value) 
    (hx : A.tmps.getD 6 undef = .pointer (some ⟨bX, 0, none⟩)) (ha : A.tmps.getD 1 undef = .pointer (some ⟨bA, 0, none⟩)) (qX : Blk w1 bX (snA s ux mx)) (qA : Blk w1 bA (snA s vr vm)) (hT : ∀ W, Below w1.heap.size w1 W → Calls Try.prog 8 #[.agg (snA s vr vm)] W fun r w' => ∃ u m, r = .returned (.agg (snA s u m)) ∧ MemR w' (memV u m s.m.page s.m.screen s.m.locked) s.m ∧ Below W.heap.size W w') (hE : ∀ W u m, Below w1.heap.size w1 W → MemR W (memV u m s.m.page s.m.screen s.m.locked) s.m → Calls Try.prog 10 #[.agg (snA s ux mx), .agg (snA s u m)] W fun r w' => r = .returned (.bool true) ∧ Below W.heap.size W w')
    (f : Nat → Bool) (e : Value × Value) (a : Act) (w : World) (hun : f 3 = false) (hdep : ∀ d ∈ n2_o3.after, Region.binds .any d = true → f d.on = true) (hJ : n2_J w1 bX bA s ux mx vr vm f e w) (hFr : Fr n2_O A f (fun j => n2_V bX bA s ux mx vr vm j e) a)
    (K : Act → World → Prop) (hK : Hid (∀ v e' w', v = n2_V bX bA s ux mx vr vm 3 e' → (∀ j, f j = true → n2_V bX bA s ux mx vr vm j e' = n2_V bX bA s ux mx vr vm j e) → n2_J w1 bX bA s ux mx vr vm (fun j => j == 3 || f j) e' w' → K (a.put n2_o3.dst v) w')) :
    if Region.wanted n2_o3 (yielded n2_O a.tmps) = true then Oper.wp Try.prog n2_o3 a w K Q else K (a.put n2_o3.dst undef) w := by
  unfold n2_o3 at hdep hK ⊢
  have hK9 := hK
  obtain ⟨hB, j2⟩ := hJ
  have k0 : f 0 = true := hdep { on := 0, ground := .data } (by simp) rfl
  have v35 : a.tmps.getD 35 undef = (.agg (snA s ux mx)) := hFr.new 0 35 rfl k0
  have k2 : f 2 = true := hdep { on := 2, ground := .data } (by simp) rfl
  have v37 : a.tmps.getD 37 undef = (.agg (snA s e.1 e.2)) := hFr.new 2 37 rfl k2
  have r2 := hid (j2 k2)
  replace hB := hid hB
  replace j2 := hid j2
  replace hT := hid hT
  replace hE := hid hE
  replace qX := hid qX
  replace qA := hid qA
  clear hdep hFr hx ha
  go_simp
  go_at_call 10
  refine (hE.out w _ _ hB.out r2.out).mono ?_
  rintro r w' ⟨rfl, hb'⟩
  replace hb' := hid hb'
  go_simp
  exact hK9.out _ e _ rfl (fun _ _ => rfl) ⟨new_trans hB.out hb'.out, fun h => (j2.out h).below hb'.out⟩
set_option maxRecDepth 100000 in
set_option maxHeartbeats 2000000 in
theorem n2_s4 (A : Act) (w1 : World) (Q : Exit → Act → World → Prop) (bX bA : Nat) (s : Sn) (ux mx vr vm : Value) 
    (hx : A.tmps.getD 6 undef = .pointer (some ⟨bX, 0, none⟩)) (ha : A.tmps.getD 1 undef = .pointer (some ⟨bA, 0, none⟩)) (qX : Blk w1 bX (snA s ux mx)) (qA : Blk w1 bA (snA s vr vm)) (hT : ∀ W, Below w1.heap.size w1 W → Calls Try.prog 8 #[.agg (snA s vr vm)] W fun r w' => ∃ u m, r = .returned (.agg (snA s u m)) ∧ MemR w' (memV u m s.m.page s.m.screen s.m.locked) s.m ∧ Below W.heap.size W w') (hE : ∀ W u m, Below w1.heap.size w1 W → MemR W (memV u m s.m.page s.m.screen s.m.locked) s.m → Calls Try.prog 10 #[.agg (snA s ux mx), .agg (snA s u m)] W fun r w' => r = .returned (.bool true) ∧ Below W.heap.size W w')
    (f : Nat → Bool) (e : Value × Value) (a : Act) (w : World) (hun : f 4 = false) (hdep : ∀ d ∈ n2_o4.after, Region.binds .any d = true → f d.on = true) (hJ : n2_J w1 bX bA s ux mx vr vm f e w) (hFr : Fr n2_O A f (fun j => n2_V bX bA s ux mx vr vm j e) a)
    (K : Act → World → Prop) (hK : Hid (∀ v e' w', v = n2_V bX bA s ux mx vr vm 4 e' → (∀ j, f j = true → n2_V bX bA s ux mx vr vm j e' = n2_V bX bA s ux mx vr vm j e) → n2_J w1 bX bA s ux mx vr vm (fun j => j == 4 || f j) e' w' → K (a.put n2_o4.dst v) w')) :
    if Region.wanted n2_o4 (yielded n2_O a.tmps) = true then Oper.wp Try.prog n2_o4 a w K Q else K (a.put n2_o4.dst undef) w := by
  unfold n2_o4 at hdep hK ⊢
  have hK9 := hK
  obtain ⟨hB, j2⟩ := hJ
  have k3 : f 3 = true := hdep { on := 3, ground := .data } (by simp) rfl
  have v38 : a.tmps.getD 38 undef = .bool true := hFr.new 3 38 rfl k3
  replace hB := hid hB
  replace j2 := hid j2
  replace hT := hid hT
  replace hE := hid hE
  replace qX := hid qX
  replace qA := hid qA
  clear hdep hFr hx ha
  go_simp
  exact hK9.out _ e _ rfl (fun _ _ => rfl) ⟨hB.out, j2.out⟩
set_option maxRecDepth 100000 in
set_option maxHeartbeats 4000000 in
theorem n2_reg (A : Act) (w1 : World) (Q : Exit → Act → World → Prop) (bX bA : Nat) (s : Sn) (ux mx vr vm : Value) 
    (hx : A.tmps.getD 6 undef = .pointer (some ⟨bX, 0, none⟩)) (ha : A.tmps.getD 1 undef = .pointer (some ⟨bA, 0, none⟩)) (qX : Blk w1 bX (snA s ux mx)) (qA : Blk w1 bA (snA s vr vm)) (hT : ∀ W, Below w1.heap.size w1 W → Calls Try.prog 8 #[.agg (snA s vr vm)] W fun r w' => ∃ u m, r = .returned (.agg (snA s u m)) ∧ MemR w' (memV u m s.m.page s.m.screen s.m.locked) s.m ∧ Below W.heap.size W w') (hE : ∀ W u m, Below w1.heap.size w1 W → MemR W (memV u m s.m.page s.m.screen s.m.locked) s.m → Calls Try.prog 10 #[.agg (snA s ux mx), .agg (snA s u m)] W fun r w' => r = .returned (.bool true) ∧ Below W.heap.size W w') (hN : 40 ≤ A.tmps.size)
    (h : ∀ (w : World) (e : Value × Value), Below w1.heap.size w1 w → Q .normal (putsA A [(35, (.agg (snA s ux mx))), (36, (.agg (snA s vr vm))), (37, (.agg (snA s e.1 e.2))), (38, .bool true), (39, .bool false)]) w) :
    (Code.region 10 #[({ dst := some 35, op := Op.load 39 (Operand.tmp 6), type := 39, pos := "exact.go:2986", after := #[], guard := none } : Oper), ({ dst := some 36, op := Op.load 32 (Operand.tmp 1), type := 32, pos := "exact.go:2986", after := #[], guard := none } : Oper), ({ dst := some 37, op := Op.call { callee := Callee.value (Operand.func 8), args := #[Operand.tmp 36], argTypes := #[32] }, type := 39, pos := "exact.go:2986", after := #[{ on := 1, ground := Ground.data }], guard := none } : Oper), ({ dst := some 38, op := Op.call { callee := Callee.value (Operand.func 10), args := #[Operand.tmp 35, Operand.tmp 37], argTypes := #[39, 39] }, type := 4, pos := "exact.go:2986", after := #[{ on := 0, ground := Ground.data }, { on := 2, ground := Ground.data }, { on := 2, ground := Ground.chain }], guard := none } : Oper), ({ dst := some 39, op := Op.unOp UnOp.not 4 (Operand.tmp 38), type := 4, pos := "exact.go:2986", after := #[{ on := 3, ground := Ground.data }], guard := none } : Oper)] true).wp Try.prog Q A w1 := by
  show (Code.region 10 n2_O true).wp Try.prog Q A w1
  refine wp_region_slots (E := Value × Value) (n2_V bX bA s ux mx vr vm) (n2_J w1 bX bA s ux mx vr vm) (by kernel_rfl) (by kernel_rfl) (by kernel_rfl) (fun i s hi => ?_) ?_ (undef, undef) ⟨(Below.refl _ _).drew, fun h => (by cases h)⟩ ?_
  · cases hc : ([35, 36, 37, 38, 39] : List Nat).contains s
    · exact absurd hi (n2_no hc i)
    · have : s ∈ ([35, 36, 37, 38, 39] : List Nat) := by simpa using hc
      simp only [List.mem_cons, List.not_mem_nil, or_false] at this
      omega
  · intro f e a w i o hi ho hun hdep hJ hFr K hK
    have hi8 : i < 5 := hi
    rcases (by omega : i = 0 ∨ i = 1 ∨ i = 2 ∨ i = 3 ∨ i = 4) with rfl | rfl | rfl | rfl | rfl
    · obtain rfl := Option.some.inj ho
      exact n2_s0 A w1 Q bX bA s ux mx vr vm hx ha qX qA hT hE f e a w hun hdep hJ hFr K hK
    · obtain rfl := Option.some.inj ho
      exact n2_s1 A w1 Q bX bA s ux mx vr vm hx ha qX qA hT hE f e a w hun hdep hJ hFr K hK
    · obtain rfl := Option.some.inj ho
      exact n2_s2 A w1 Q bX bA s ux mx vr vm hx ha qX qA hT hE f e a w hun hdep hJ hFr K hK
    · obtain rfl := Option.some.inj ho
      exact n2_s3 A w1 Q bX bA s ux mx vr vm hx ha qX qA hT hE f e a w hun hdep hJ hFr K hK
    · obtain rfl := Option.some.inj ho
      exact n2_s4 A w1 Q bX bA s ux mx vr vm hx ha qX qA hT hE f e a w hun hdep hJ hFr K hK
  · intro f e a w hall hJ hFr
    have := h w e hJ.1
    rw [hFr.eq [(35, (.agg (snA s ux mx))), (36, (.agg (snA s vr vm))), (37, (.agg (snA s e.1 e.2))), (38, .bool true), (39, .bool false)] (fun s hs => ?_) (fun i s hi => ?_)]
    · exact this
    · have hne : ∀ k ∈ ([35, 36, 37, 38, 39] : List Nat), k ≠ s := by
        intro k hk e2
        subst e2
        simp only [List.mem_cons, List.not_mem_nil, or_false] at hk
        rcases hk with rfl | rfl | rfl | rfl | rfl
        · exact hs 0 rfl
        · exact hs 1 rfl
        · exact hs 2 rfl
        · exact hs 3 rfl
        · exact hs 4 rfl
      simp only [lookA]
      simp [hne]
    · have hl : i < 5 := by
        rcases Nat.lt_or_ge i 5 with h1 | h1
        · exact h1
        · unfold dstAt at hi
          rw [Array.getElem?_eq_none (by exact h1)] at hi
          cases hi
      refine ⟨hall i hl, ?_⟩
      rcases (by omega : i = 0 ∨ i = 1 ∨ i = 2 ∨ i = 3 ∨ i = 4) with rfl | rfl | rfl | rfl | rfl
      all_goals first
        | (cases hi; rfl)
        | cases hi
def n3_V (bX bA : Nat) (s : Sn) (ux mx vr vm : Value) : Nat → Value × Value → Value := fun i e => match i with
  | 0 => (.agg (snA s ux mx))
  | 1 => (.agg (snA s vr vm))
  | 2 => (.agg (snA s e.1 e.2))
  | 3 => .bool true
  | 4 => .bool false
  | _ => undef
def n3_J (w1 : World) (bX bA : Nat) (s : Sn) (ux mx vr vm : Value) (f : Nat → Bool) (e : Value × Value) (w : World) : Prop :=
  Below w1.heap.size w1 w ∧ (f 2 = true → MemR w (memV e.1 e.2 s.m.page s.m.screen s.m.locked) s.m)
def n3_o0 : Oper := ({ dst := some 35, op := Op.load 39 (Operand.tmp 7), type := 39, pos := "exact.go:3048", after := #[], guard := none } : Oper)
def n3_o1 : Oper := ({ dst := some 36, op := Op.load 32 (Operand.tmp 2), type := 32, pos := "exact.go:3048", after := #[], guard := none } : Oper)
def n3_o2 : Oper := ({ dst := some 37, op := Op.call { callee := Callee.value (Operand.func 8), args := #[Operand.tmp 36], argTypes := #[32] }, type := 39, pos := "exact.go:3048", after := #[{ on := 1, ground := Ground.data }], guard := none } : Oper)
def n3_o3 : Oper := ({ dst := some 38, op := Op.call { callee := Callee.value (Operand.func 10), args := #[Operand.tmp 35, Operand.tmp 37], argTypes := #[39, 39] }, type := 4, pos := "exact.go:3048", after := #[{ on := 0, ground := Ground.data }, { on := 2, ground := Ground.data }, { on := 2, ground := Ground.chain }], guard := none } : Oper)
def n3_o4 : Oper := ({ dst := some 39, op := Op.unOp UnOp.not 4 (Operand.tmp 38), type := 4, pos := "exact.go:3048", after := #[{ on := 3, ground := Ground.data }], guard := none } : Oper)
def n3_O : Array Oper := #[n3_o0, n3_o1, n3_o2, n3_o3, n3_o4]
theorem n3_no {s : Nat} (h : ([35, 36, 37, 38, 39] : List Nat).contains s = false) : ∀ i, dstAt n3_O i ≠ some s := by
  intro i hi
  have hl : i < 5 := by
    rcases Nat.lt_or_ge i 5 with h1 | h1
    · exact h1
    · unfold dstAt at hi
      rw [Array.getElem?_eq_none (by exact h1)] at hi
      cases hi
  rcases (by omega : i = 0 ∨ i = 1 ∨ i = 2 ∨ i = 3 ∨ i = 4) with rfl | rfl | rfl | rfl | rfl
  all_goals first
    | (cases hi; simp at h)
    | cases hi
theorem n3_keep (bX bA : Nat) (s : Sn) (ux mx vr vm : Value) {f : Nat → Bool} (e : Value × Value) (u m : Value) (hn : f 2 = false) : ∀ j, f j = true → n3_V bX bA s ux mx vr vm j (u, m) = n3_V bX bA s ux mx vr vm j e := by
  intro j hj
  unfold n3_V
  split
  · rfl
  · rfl
  · rw [hn] at hj; cases hj
  · rfl
  · rfl
  · rfl
set_option maxRecDepth 100000 in
set_option maxHeartbeats 2000000 in
theorem n3_s0 (A : Act) (w1 : World) (Q : Exit → Act → World → Prop) (bX bA : Nat) (s : Sn) (ux mx vr vm : Value) 
    (hx : A.tmps.getD 7 undef = .pointer (some ⟨bX, 0, none⟩)) (ha : A.tmps.getD 2 undef = .pointer (some ⟨bA, 0, none⟩)) (qX : Blk w1 bX (snA s ux mx)) (qA : Blk w1 bA (snA s vr vm)) (hT : ∀ W, Below w1.heap.size w1 W → Calls Try.prog 8 #[.agg (snA s vr vm)] W fun r w' => ∃ u m, r = .returned (.agg (snA s u m)) ∧ MemR w' (memV u m s.m.page s.m.screen s.m.locked) s.m ∧ Below W.heap.size W w') (hE : ∀ W u m, Below w1.heap.size w1 W → MemR W (memV u m s.m.page s.m.screen s.m.locked) s.m → Calls Try.prog 10 #[.agg (snA s ux mx), .agg (snA s u m)] W fun r w' => r = .returned (.bool true) ∧ Below W.heap.size W w')
    (f : Nat → Bool) (e : Value × Value) (a : Act) (w : World) (hun : f 0 = false) (hdep : ∀ d ∈ n3_o0.after, Region.binds .any d = true → f d.on = true) (hJ : n3_J w1 bX bA s ux mx vr vm f e w) (hFr : Fr n3_O A f (fun j => n3_V bX bA s ux mx vr vm j e) a)
    (K : Act → World → Prop) (hK : Hid (∀ v e' w', v = n3_V bX bA s ux mx vr vm 0 e' → (∀ j, f j = true → n3_V bX bA s ux mx vr vm j e' = n3_V bX bA s ux mx vr vm j e) → n3_J w1 bX bA s ux mx vr vm (fun j => j == 0 || f j) e' w' → K (a.put n3_o0.dst v) w')) :
    if Region.wanted n3_o0 (yielded n3_O a.tmps) = true then Oper.wp Try.prog n3_o0 a w K Q else K (a.put n3_o0.dst undef) w := by
  unfold n3_o0 at hdep hK ⊢
  have hK9 := hK
  obtain ⟨hB, j2⟩ := hJ
  have v7 := (hFr.old 7 (n3_no (by decide))).trans hx
  have x0 := sn_all (qX.below hB qX.lt)
  rw [if_pos (show Region.wanted _ _ = true from rfl)]
  refine wp_load_mid 39 _ rfl bX 0 v7 (snA s ux mx).toList _ x0 Try.underlying39 rfl (szS s ux mx) ?_
  exact hK9.out _ e _ rfl (fun _ _ => rfl) ⟨hB, j2⟩
set_option maxRecDepth 100000 in
set_option maxHeartbeats 2000000 in
theorem n3_s1 (A : Act) (w1 : World) (Q : Exit → Act → World → Prop) (bX bA : Nat) (s : Sn) (ux mx vr vm : Value) 
    (hx : A.tmps.getD 7 undef = .pointer (some ⟨bX, 0, none⟩)) (ha : A.tmps.getD 2 undef = .pointer (some ⟨bA, 0, none⟩)) (qX : Blk w1 bX (snA s ux mx)) (qA : Blk w1 bA (snA s vr vm)) (hT : ∀ W, Below w1.heap.size w1 W → Calls Try.prog 8 #[.agg (snA s vr vm)] W fun r w' => ∃ u m, r = .returned (.agg (snA s u m)) ∧ MemR w' (memV u m s.m.page s.m.screen s.m.locked) s.m ∧ Below W.heap.size W w') (hE : ∀ W u m, Below w1.heap.size w1 W → MemR W (memV u m s.m.page s.m.screen s.m.locked) s.m → Calls Try.prog 10 #[.agg (snA s ux mx), .agg (snA s u m)] W fun r w' => r = .returned (.bool true) ∧ Below W.heap.size W w')
    (f : Nat → Bool) (e : Value × Value) (a : Act) (w : World) (hun : f 1 = false) (hdep : ∀ d ∈ n3_o1.after, Region.binds .any d = true → f d.on = true) (hJ : n3_J w1 bX bA s ux mx vr vm f e w) (hFr : Fr n3_O A f (fun j => n3_V bX bA s ux mx vr vm j e) a)
    (K : Act → World → Prop) (hK : Hid (∀ v e' w', v = n3_V bX bA s ux mx vr vm 1 e' → (∀ j, f j = true → n3_V bX bA s ux mx vr vm j e' = n3_V bX bA s ux mx vr vm j e) → n3_J w1 bX bA s ux mx vr vm (fun j => j == 1 || f j) e' w' → K (a.put n3_o1.dst v) w')) :
    if Region.wanted n3_o1 (yielded n3_O a.tmps) = true then Oper.wp Try.prog n3_o1 a w K Q else K (a.put n3_o1.dst undef) w := by
  unfold n3_o1 at hdep hK ⊢
  have hK9 := hK
  obtain ⟨hB, j2⟩ := hJ
  have v2 := (hFr.old 2 (n3_no (by decide))).trans ha
  have x0 := sn_all (qA.below hB qA.lt)
  rw [if_pos (show Region.wanted _ _ = true from rfl)]
  refine wp_load_mid 32 _ rfl bA 0 v2 (snA s vr vm).toList _ x0 Try.underlying32 rfl (szLS s vr vm) ?_
  exact hK9.out _ e _ rfl (fun _ _ => rfl) ⟨hB, j2⟩
set_option maxRecDepth 100000 in
set_option maxHeartbeats 2000000 in
theorem n3_s2 (A : Act) (w1 : World) (Q : Exit → Act → World → Prop) (bX bA : Nat) (s : Sn) (ux mx vr vm : Value) 
    (hx : A.tmps.getD 7 undef = .pointer (some ⟨bX, 0, none⟩)) (ha : A.tmps.getD 2 undef = .pointer (some ⟨bA, 0, none⟩)) (qX : Blk w1 bX (snA s ux mx)) (qA : Blk w1 bA (snA s vr vm)) (hT : ∀ W, Below w1.heap.size w1 W → Calls Try.prog 8 #[.agg (snA s vr vm)] W fun r w' => ∃ u m, r = .returned (.agg (snA s u m)) ∧ MemR w' (memV u m s.m.page s.m.screen s.m.locked) s.m ∧ Below W.heap.size W w') (hE : ∀ W u m, Below w1.heap.size w1 W → MemR W (memV u m s.m.page s.m.screen s.m.locked) s.m → Calls Try.prog 10 #[.agg (snA s ux mx), .agg (snA s u m)] W fun r w' => r = .returned (.bool true) ∧ Below W.heap.size W w')
    (f : Nat → Bool) (e : Value × Value) (a : Act) (w : World) (hun : f 2 = false) (hdep : ∀ d ∈ n3_o2.after, Region.binds .any d = true → f d.on = true) (hJ : n3_J w1 bX bA s ux mx vr vm f e w) (hFr : Fr n3_O A f (fun j => n3_V bX bA s ux mx vr vm j e) a)
    (K : Act → World → Prop) (hK : Hid (∀ v e' w', v = n3_V bX bA s ux mx vr vm 2 e' → (∀ j, f j = true → n3_V bX bA s ux mx vr vm j e' = n3_V bX bA s ux mx vr vm j e) → n3_J w1 bX bA s ux mx vr vm (fun j => j == 2 || f j) e' w' → K (a.put n3_o2.dst v) w')) :
    if Region.wanted n3_o2 (yielded n3_O a.tmps) = true then Oper.wp Try.prog n3_o2 a w K Q else K (a.put n3_o2.dst undef) w := by
  unfold n3_o2 at hdep hK ⊢
  have hK9 := hK
  obtain ⟨hB, j2⟩ := hJ
  have k1 : f 1 = true := hdep { on := 1, ground := .data } (by simp) rfl
  have v36 : a.tmps.getD 36 undef = (.agg (snA s vr vm)) := hFr.new 1 36 rfl k1
  replace hB := hid hB
  replace j2 := hid j2
  replace hT := hid hT
  replace hE := hid hE
  replace qX := hid qX
  replace qA := hid qA
  clear hdep hFr hx ha
  go_simp
  go_at_call 8
  refine (hT.out w hB.out).mono ?_
  rintro r w' ⟨u, m, rfl, hm', hb'⟩
  replace hm' := hid hm'
  replace hb' := hid hb'
  go_simp
  exact hK9.out _ (u, m) _ rfl (n3_keep bX bA s ux mx vr vm e u m hun) ⟨new_trans hB.out hb'.out, fun _ => hm'.out⟩
set_option maxRecDepth 100000 in
set_option maxHeartbeats 2000000 in
theorem n3_s3 (A : Act) (w1 : World) (Q : Exit → Act → World → Prop) (bX bA : Nat) (s : Sn) (ux mx vr vm : Value) 
    (hx : A.tmps.getD 7 undef = .pointer (some ⟨bX, 0, none⟩)) (ha : A.tmps.getD 2 undef = .pointer (some ⟨bA, 0, none⟩)) (qX : Blk w1 bX (snA s ux mx)) (qA : Blk w1 bA (snA s vr vm)) (hT : ∀ W, Below w1.heap.size w1 W → Calls Try.prog 8 #[.agg (snA s vr vm)] W fun r w' => ∃ u m, r = .returned (.agg (snA s u m)) ∧ MemR w' (memV u m s.m.page s.m.screen s.m.locked) s.m ∧ Below W.heap.size W w') (hE : ∀ W u m, Below w1.heap.size w1 W → MemR W (memV u m s.m.page s.m.screen s.m.locked) s.m → Calls Try.prog 10 #[.agg (snA s ux mx), .agg (snA s u m)] W fun r w' => r = .returned (.bool true) ∧ Below W.heap.size W w')
    (f : Nat → Bool) (e : Value × Value) (a : Act) (w : World) (hun : f 3 = false) (hdep : ∀ d ∈ n3_o3.after, Region.binds .any d = true → f d.on = true) (hJ : n3_J w1 bX bA s ux mx vr vm f e w) (hFr : Fr n3_O A f (fun j => n3_V bX bA s ux mx vr vm j e) a)
    (K : Act → World → Prop) (hK : Hid (∀ v e' w', v = n3_V bX bA s ux mx vr vm 3 e' → (∀ j, f j = true → n3_V bX bA s ux mx vr vm j e' = n3_V bX bA s ux mx vr vm j e) → n3_J w1 bX bA s ux mx vr vm (fun j => j == 3 || f j) e' w' → K (a.put n3_o3.dst v) w')) :
    if Region.wanted n3_o3 (yielded n3_O a.tmps) = true then Oper.wp Try.prog n3_o3 a w K Q else K (a.put n3_o3.dst undef) w := by
  unfold n3_o3 at hdep hK ⊢
  have hK9 := hK
  obtain ⟨hB, j2⟩ := hJ
  have k0 : f 0 = true := hdep { on := 0, ground := .data } (by simp) rfl
  have v35 : a.tmps.getD 35 undef = (.agg (snA s ux mx)) := hFr.new 0 35 rfl k0
  have k2 : f 2 = true := hdep { on := 2, ground := .data } (by simp) rfl
  have v37 : a.tmps.getD 37 undef = (.agg (snA s e.1 e.2)) := hFr.new 2 37 rfl k2
  have r2 := hid (j2 k2)
  replace hB := hid hB
  replace j2 := hid j2
  replace hT := hid hT
  replace hE := hid hE
  replace qX := hid qX
  replace qA := hid qA
  clear hdep hFr hx ha
  go_simp
  go_at_call 10
  refine (hE.out w _ _ hB.out r2.out).mono ?_
  rintro r w' ⟨rfl, hb'⟩
  replace hb' := hid hb'
  go_simp
  exact hK9.out _ e _ rfl (fun _ _ => rfl) ⟨new_trans hB.out hb'.out, fun h => (j2.out h).below hb'.out⟩
set_option maxRecDepth 100000 in
set_option maxHeartbeats 2000000 in
theorem n3_s4 (A : Act) (w1 : World) (Q : Exit → Act → World → Prop) (bX bA : Nat) (s : Sn) (ux mx vr vm : Value) 
    (hx : A.tmps.getD 7 undef = .pointer (some ⟨bX, 0, none⟩)) (ha : A.tmps.getD 2 undef = .pointer (some ⟨bA, 0, none⟩)) (qX : Blk w1 bX (snA s ux mx)) (qA : Blk w1 bA (snA s vr vm)) (hT : ∀ W, Below w1.heap.size w1 W → Calls Try.prog 8 #[.agg (snA s vr vm)] W fun r w' => ∃ u m, r = .returned (.agg (snA s u m)) ∧ MemR w' (memV u m s.m.page s.m.screen s.m.locked) s.m ∧ Below W.heap.size W w') (hE : ∀ W u m, Below w1.heap.size w1 W → MemR W (memV u m s.m.page s.m.screen s.m.locked) s.m → Calls Try.prog 10 #[.agg (snA s ux mx), .agg (snA s u m)] W fun r w' => r = .returned (.bool true) ∧ Below W.heap.size W w')
    (f : Nat → Bool) (e : Value × Value) (a : Act) (w : World) (hun : f 4 = false) (hdep : ∀ d ∈ n3_o4.after, Region.binds .any d = true → f d.on = true) (hJ : n3_J w1 bX bA s ux mx vr vm f e w) (hFr : Fr n3_O A f (fun j => n3_V bX bA s ux mx vr vm j e) a)
    (K : Act → World → Prop) (hK : Hid (∀ v e' w', v = n3_V bX bA s ux mx vr vm 4 e' → (∀ j, f j = true → n3_V bX bA s ux mx vr vm j e' = n3_V bX bA s ux mx vr vm j e) → n3_J w1 bX bA s ux mx vr vm (fun j => j == 4 || f j) e' w' → K (a.put n3_o4.dst v) w')) :
    if Region.wanted n3_o4 (yielded n3_O a.tmps) = true then Oper.wp Try.prog n3_o4 a w K Q else K (a.put n3_o4.dst undef) w := by
  unfold n3_o4 at hdep hK ⊢
  have hK9 := hK
  obtain ⟨hB, j2⟩ := hJ
  have k3 : f 3 = true := hdep { on := 3, ground := .data } (by simp) rfl
  have v38 : a.tmps.getD 38 undef = .bool true := hFr.new 3 38 rfl k3
  replace hB := hid hB
  replace j2 := hid j2
  replace hT := hid hT
  replace hE := hid hE
  replace qX := hid qX
  replace qA := hid qA
  clear hdep hFr hx ha
  go_simp
  exact hK9.out _ e _ rfl (fun _ _ => rfl) ⟨hB.out, j2.out⟩
set_option maxRecDepth 100000 in
set_option maxHeartbeats 4000000 in
theorem n3_reg (A : Act) (w1 : World) (Q : Exit → Act → World → Prop) (bX bA : Nat) (s : Sn) (ux mx vr vm : Value) 
    (hx : A.tmps.getD 7 undef = .pointer (some ⟨bX, 0, none⟩)) (ha : A.tmps.getD 2 undef = .pointer (some ⟨bA, 0, none⟩)) (qX : Blk w1 bX (snA s ux mx)) (qA : Blk w1 bA (snA s vr vm)) (hT : ∀ W, Below w1.heap.size w1 W → Calls Try.prog 8 #[.agg (snA s vr vm)] W fun r w' => ∃ u m, r = .returned (.agg (snA s u m)) ∧ MemR w' (memV u m s.m.page s.m.screen s.m.locked) s.m ∧ Below W.heap.size W w') (hE : ∀ W u m, Below w1.heap.size w1 W → MemR W (memV u m s.m.page s.m.screen s.m.locked) s.m → Calls Try.prog 10 #[.agg (snA s ux mx), .agg (snA s u m)] W fun r w' => r = .returned (.bool true) ∧ Below W.heap.size W w') (hN : 40 ≤ A.tmps.size)
    (h : ∀ (w : World) (e : Value × Value), Below w1.heap.size w1 w → Q .normal (putsA A [(35, (.agg (snA s ux mx))), (36, (.agg (snA s vr vm))), (37, (.agg (snA s e.1 e.2))), (38, .bool true), (39, .bool false)]) w) :
    (Code.region 14 #[({ dst := some 35, op := Op.load 39 (Operand.tmp 7), type := 39, pos := "exact.go:3048", after := #[], guard := none } : Oper), ({ dst := some 36, op := Op.load 32 (Operand.tmp 2), type := 32, pos := "exact.go:3048", after := #[], guard := none } : Oper), ({ dst := some 37, op := Op.call { callee := Callee.value (Operand.func 8), args := #[Operand.tmp 36], argTypes := #[32] }, type := 39, pos := "exact.go:3048", after := #[{ on := 1, ground := Ground.data }], guard := none } : Oper), ({ dst := some 38, op := Op.call { callee := Callee.value (Operand.func 10), args := #[Operand.tmp 35, Operand.tmp 37], argTypes := #[39, 39] }, type := 4, pos := "exact.go:3048", after := #[{ on := 0, ground := Ground.data }, { on := 2, ground := Ground.data }, { on := 2, ground := Ground.chain }], guard := none } : Oper), ({ dst := some 39, op := Op.unOp UnOp.not 4 (Operand.tmp 38), type := 4, pos := "exact.go:3048", after := #[{ on := 3, ground := Ground.data }], guard := none } : Oper)] true).wp Try.prog Q A w1 := by
  show (Code.region 14 n3_O true).wp Try.prog Q A w1
  refine wp_region_slots (E := Value × Value) (n3_V bX bA s ux mx vr vm) (n3_J w1 bX bA s ux mx vr vm) (by kernel_rfl) (by kernel_rfl) (by kernel_rfl) (fun i s hi => ?_) ?_ (undef, undef) ⟨(Below.refl _ _).drew, fun h => (by cases h)⟩ ?_
  · cases hc : ([35, 36, 37, 38, 39] : List Nat).contains s
    · exact absurd hi (n3_no hc i)
    · have : s ∈ ([35, 36, 37, 38, 39] : List Nat) := by simpa using hc
      simp only [List.mem_cons, List.not_mem_nil, or_false] at this
      omega
  · intro f e a w i o hi ho hun hdep hJ hFr K hK
    have hi8 : i < 5 := hi
    rcases (by omega : i = 0 ∨ i = 1 ∨ i = 2 ∨ i = 3 ∨ i = 4) with rfl | rfl | rfl | rfl | rfl
    · obtain rfl := Option.some.inj ho
      exact n3_s0 A w1 Q bX bA s ux mx vr vm hx ha qX qA hT hE f e a w hun hdep hJ hFr K hK
    · obtain rfl := Option.some.inj ho
      exact n3_s1 A w1 Q bX bA s ux mx vr vm hx ha qX qA hT hE f e a w hun hdep hJ hFr K hK
    · obtain rfl := Option.some.inj ho
      exact n3_s2 A w1 Q bX bA s ux mx vr vm hx ha qX qA hT hE f e a w hun hdep hJ hFr K hK
    · obtain rfl := Option.some.inj ho
      exact n3_s3 A w1 Q bX bA s ux mx vr vm hx ha qX qA hT hE f e a w hun hdep hJ hFr K hK
    · obtain rfl := Option.some.inj ho
      exact n3_s4 A w1 Q bX bA s ux mx vr vm hx ha qX qA hT hE f e a w hun hdep hJ hFr K hK
  · intro f e a w hall hJ hFr
    have := h w e hJ.1
    rw [hFr.eq [(35, (.agg (snA s ux mx))), (36, (.agg (snA s vr vm))), (37, (.agg (snA s e.1 e.2))), (38, .bool true), (39, .bool false)] (fun s hs => ?_) (fun i s hi => ?_)]
    · exact this
    · have hne : ∀ k ∈ ([35, 36, 37, 38, 39] : List Nat), k ≠ s := by
        intro k hk e2
        subst e2
        simp only [List.mem_cons, List.not_mem_nil, or_false] at hk
        rcases hk with rfl | rfl | rfl | rfl | rfl
        · exact hs 0 rfl
        · exact hs 1 rfl
        · exact hs 2 rfl
        · exact hs 3 rfl
        · exact hs 4 rfl
      simp only [lookA]
      simp [hne]
    · have hl : i < 5 := by
        rcases Nat.lt_or_ge i 5 with h1 | h1
        · exact h1
        · unfold dstAt at hi
          rw [Array.getElem?_eq_none (by exact h1)] at hi
          cases hi
      refine ⟨hall i hl, ?_⟩
      rcases (by omega : i = 0 ∨ i = 1 ∨ i = 2 ∨ i = 3 ∨ i = 4) with rfl | rfl | rfl | rfl | rfl
      all_goals first
        | (cases hi; rfl)
        | cases hi
def n4_V (bX bA : Nat) (s : Sn) (ux mx vr vm : Value) : Nat → Value × Value → Value := fun i e => match i with
  | 0 => (.agg (snA s ux mx))
  | 1 => (.agg (snA s vr vm))
  | 2 => (.agg (snA s e.1 e.2))
  | 3 => .bool true
  | 4 => .bool false
  | _ => undef
def n4_J (w1 : World) (bX bA : Nat) (s : Sn) (ux mx vr vm : Value) (f : Nat → Bool) (e : Value × Value) (w : World) : Prop :=
  Below w1.heap.size w1 w ∧ (f 2 = true → MemR w (memV e.1 e.2 s.m.page s.m.screen s.m.locked) s.m)
def n4_o0 : Oper := ({ dst := some 40, op := Op.load 39 (Operand.tmp 8), type := 39, pos := "exact.go:3051", after := #[], guard := none } : Oper)
def n4_o1 : Oper := ({ dst := some 41, op := Op.load 32 (Operand.tmp 3), type := 32, pos := "exact.go:3051", after := #[], guard := none } : Oper)
def n4_o2 : Oper := ({ dst := some 42, op := Op.call { callee := Callee.value (Operand.func 8), args := #[Operand.tmp 41], argTypes := #[32] }, type := 39, pos := "exact.go:3051", after := #[{ on := 1, ground := Ground.data }], guard := none } : Oper)
def n4_o3 : Oper := ({ dst := some 43, op := Op.call { callee := Callee.value (Operand.func 10), args := #[Operand.tmp 40, Operand.tmp 42], argTypes := #[39, 39] }, type := 4, pos := "exact.go:3051", after := #[{ on := 0, ground := Ground.data }, { on := 2, ground := Ground.data }, { on := 2, ground := Ground.chain }], guard := none } : Oper)
def n4_o4 : Oper := ({ dst := some 44, op := Op.unOp UnOp.not 4 (Operand.tmp 43), type := 4, pos := "exact.go:3051", after := #[{ on := 3, ground := Ground.data }], guard := none } : Oper)
def n4_O : Array Oper := #[n4_o0, n4_o1, n4_o2, n4_o3, n4_o4]
theorem n4_no {s : Nat} (h : ([40, 41, 42, 43, 44] : List Nat).contains s = false) : ∀ i, dstAt n4_O i ≠ some s := by
  intro i hi
  have hl : i < 5 := by
    rcases Nat.lt_or_ge i 5 with h1 | h1
    · exact h1
    · unfold dstAt at hi
      rw [Array.getElem?_eq_none (by exact h1)] at hi
      cases hi
  rcases (by omega : i = 0 ∨ i = 1 ∨ i = 2 ∨ i = 3 ∨ i = 4) with rfl | rfl | rfl | rfl | rfl
  all_goals first
    | (cases hi; simp at h)
    | cases hi
theorem n4_keep (bX bA : Nat) (s : Sn) (ux mx vr vm : Value) {f : Nat → Bool} (e : Value × Value) (u m : Value) (hn : f 2 = false) : ∀ j, f j = true → n4_V bX bA s ux mx vr vm j (u, m) = n4_V bX bA s ux mx vr vm j e := by
  intro j hj
  unfold n4_V
  split
  · rfl
  · rfl
  · rw [hn] at hj; cases hj
  · rfl
  · rfl
  · rfl
set_option maxRecDepth 100000 in
set_option maxHeartbeats 2000000 in
theorem n4_s0 (A : Act) (w1 : World) (Q : Exit → Act → World → Prop) (bX bA : Nat) (s : Sn) (ux mx vr vm : Value) 
    (hx : A.tmps.getD 8 undef = .pointer (some ⟨bX, 0, none⟩)) (ha : A.tmps.getD 3 undef = .pointer (some ⟨bA, 0, none⟩)) (qX : Blk w1 bX (snA s ux mx)) (qA : Blk w1 bA (snA s vr vm)) (hT : ∀ W, Below w1.heap.size w1 W → Calls Try.prog 8 #[.agg (snA s vr vm)] W fun r w' => ∃ u m, r = .returned (.agg (snA s u m)) ∧ MemR w' (memV u m s.m.page s.m.screen s.m.locked) s.m ∧ Below W.heap.size W w') (hE : ∀ W u m, Below w1.heap.size w1 W → MemR W (memV u m s.m.page s.m.screen s.m.locked) s.m → Calls Try.prog 10 #[.agg (snA s ux mx), .agg (snA s u m)] W fun r w' => r = .returned (.bool true) ∧ Below W.heap.size W w')
    (f : Nat → Bool) (e : Value × Value) (a : Act) (w : World) (hun : f 0 = false) (hdep : ∀ d ∈ n4_o0.after, Region.binds .any d = true → f d.on = true) (hJ : n4_J w1 bX bA s ux mx vr vm f e w) (hFr : Fr n4_O A f (fun j => n4_V bX bA s ux mx vr vm j e) a)
    (K : Act → World → Prop) (hK : Hid (∀ v e' w', v = n4_V bX bA s ux mx vr vm 0 e' → (∀ j, f j = true → n4_V bX bA s ux mx vr vm j e' = n4_V bX bA s ux mx vr vm j e) → n4_J w1 bX bA s ux mx vr vm (fun j => j == 0 || f j) e' w' → K (a.put n4_o0.dst v) w')) :
    if Region.wanted n4_o0 (yielded n4_O a.tmps) = true then Oper.wp Try.prog n4_o0 a w K Q else K (a.put n4_o0.dst undef) w := by
  unfold n4_o0 at hdep hK ⊢
  have hK9 := hK
  obtain ⟨hB, j2⟩ := hJ
  have v8 := (hFr.old 8 (n4_no (by decide))).trans hx
  have x0 := sn_all (qX.below hB qX.lt)
  rw [if_pos (show Region.wanted _ _ = true from rfl)]
  refine wp_load_mid 39 _ rfl bX 0 v8 (snA s ux mx).toList _ x0 Try.underlying39 rfl (szS s ux mx) ?_
  exact hK9.out _ e _ rfl (fun _ _ => rfl) ⟨hB, j2⟩
set_option maxRecDepth 100000 in
set_option maxHeartbeats 2000000 in
theorem n4_s1 (A : Act) (w1 : World) (Q : Exit → Act → World → Prop) (bX bA : Nat) (s : Sn) (ux mx vr vm : Value) 
    (hx : A.tmps.getD 8 undef = .pointer (some ⟨bX, 0, none⟩)) (ha : A.tmps.getD 3 undef = .pointer (some ⟨bA, 0, none⟩)) (qX : Blk w1 bX (snA s ux mx)) (qA : Blk w1 bA (snA s vr vm)) (hT : ∀ W, Below w1.heap.size w1 W → Calls Try.prog 8 #[.agg (snA s vr vm)] W fun r w' => ∃ u m, r = .returned (.agg (snA s u m)) ∧ MemR w' (memV u m s.m.page s.m.screen s.m.locked) s.m ∧ Below W.heap.size W w') (hE : ∀ W u m, Below w1.heap.size w1 W → MemR W (memV u m s.m.page s.m.screen s.m.locked) s.m → Calls Try.prog 10 #[.agg (snA s ux mx), .agg (snA s u m)] W fun r w' => r = .returned (.bool true) ∧ Below W.heap.size W w')
    (f : Nat → Bool) (e : Value × Value) (a : Act) (w : World) (hun : f 1 = false) (hdep : ∀ d ∈ n4_o1.after, Region.binds .any d = true → f d.on = true) (hJ : n4_J w1 bX bA s ux mx vr vm f e w) (hFr : Fr n4_O A f (fun j => n4_V bX bA s ux mx vr vm j e) a)
    (K : Act → World → Prop) (hK : Hid (∀ v e' w', v = n4_V bX bA s ux mx vr vm 1 e' → (∀ j, f j = true → n4_V bX bA s ux mx vr vm j e' = n4_V bX bA s ux mx vr vm j e) → n4_J w1 bX bA s ux mx vr vm (fun j => j == 1 || f j) e' w' → K (a.put n4_o1.dst v) w')) :
    if Region.wanted n4_o1 (yielded n4_O a.tmps) = true then Oper.wp Try.prog n4_o1 a w K Q else K (a.put n4_o1.dst undef) w := by
  unfold n4_o1 at hdep hK ⊢
  have hK9 := hK
  obtain ⟨hB, j2⟩ := hJ
  have v3 := (hFr.old 3 (n4_no (by decide))).trans ha
  have x0 := sn_all (qA.below hB qA.lt)
  rw [if_pos (show Region.wanted _ _ = true from rfl)]
  refine wp_load_mid 32 _ rfl bA 0 v3 (snA s vr vm).toList _ x0 Try.underlying32 rfl (szLS s vr vm) ?_
  exact hK9.out _ e _ rfl (fun _ _ => rfl) ⟨hB, j2⟩
set_option maxRecDepth 100000 in
set_option maxHeartbeats 2000000 in
theorem n4_s2 (A : Act) (w1 : World) (Q : Exit → Act → World → Prop) (bX bA : Nat) (s : Sn) (ux mx vr vm : Value) 
    (hx : A.tmps.getD 8 undef = .pointer (some ⟨bX, 0, none⟩)) (ha : A.tmps.getD 3 undef = .pointer (some ⟨bA, 0, none⟩)) (qX : Blk w1 bX (snA s ux mx)) (qA : Blk w1 bA (snA s vr vm)) (hT : ∀ W, Below w1.heap.size w1 W → Calls Try.prog 8 #[.agg (snA s vr vm)] W fun r w' => ∃ u m, r = .returned (.agg (snA s u m)) ∧ MemR w' (memV u m s.m.page s.m.screen s.m.locked) s.m ∧ Below W.heap.size W w') (hE : ∀ W u m, Below w1.heap.size w1 W → MemR W (memV u m s.m.page s.m.screen s.m.locked) s.m → Calls Try.prog 10 #[.agg (snA s ux mx), .agg (snA s u m)] W fun r w' => r = .returned (.bool true) ∧ Below W.heap.size W w')
    (f : Nat → Bool) (e : Value × Value) (a : Act) (w : World) (hun : f 2 = false) (hdep : ∀ d ∈ n4_o2.after, Region.binds .any d = true → f d.on = true) (hJ : n4_J w1 bX bA s ux mx vr vm f e w) (hFr : Fr n4_O A f (fun j => n4_V bX bA s ux mx vr vm j e) a)
    (K : Act → World → Prop) (hK : Hid (∀ v e' w', v = n4_V bX bA s ux mx vr vm 2 e' → (∀ j, f j = true → n4_V bX bA s ux mx vr vm j e' = n4_V bX bA s ux mx vr vm j e) → n4_J w1 bX bA s ux mx vr vm (fun j => j == 2 || f j) e' w' → K (a.put n4_o2.dst v) w')) :
    if Region.wanted n4_o2 (yielded n4_O a.tmps) = true then Oper.wp Try.prog n4_o2 a w K Q else K (a.put n4_o2.dst undef) w := by
  unfold n4_o2 at hdep hK ⊢
  have hK9 := hK
  obtain ⟨hB, j2⟩ := hJ
  have k1 : f 1 = true := hdep { on := 1, ground := .data } (by simp) rfl
  have v41 : a.tmps.getD 41 undef = (.agg (snA s vr vm)) := hFr.new 1 41 rfl k1
  replace hB := hid hB
  replace j2 := hid j2
  replace hT := hid hT
  replace hE := hid hE
  replace qX := hid qX
  replace qA := hid qA
  clear hdep hFr hx ha
  go_simp
  go_at_call 8
  refine (hT.out w hB.out).mono ?_
  rintro r w' ⟨u, m, rfl, hm', hb'⟩
  replace hm' := hid hm'
  replace hb' := hid hb'
  go_simp
  exact hK9.out _ (u, m) _ rfl (n4_keep bX bA s ux mx vr vm e u m hun) ⟨new_trans hB.out hb'.out, fun _ => hm'.out⟩
set_option maxRecDepth 100000 in
set_option maxHeartbeats 2000000 in
theorem n4_s3 (A : Act) (w1 : World) (Q : Exit → Act → World → Prop) (bX bA : Nat) (s : Sn) (ux mx vr vm : Value) 
    (hx : A.tmps.getD 8 undef = .pointer (some ⟨bX, 0, none⟩)) (ha : A.tmps.getD 3 undef = .pointer (some ⟨bA, 0, none⟩)) (qX : Blk w1 bX (snA s ux mx)) (qA : Blk w1 bA (snA s vr vm)) (hT : ∀ W, Below w1.heap.size w1 W → Calls Try.prog 8 #[.agg (snA s vr vm)] W fun r w' => ∃ u m, r = .returned (.agg (snA s u m)) ∧ MemR w' (memV u m s.m.page s.m.screen s.m.locked) s.m ∧ Below W.heap.size W w') (hE : ∀ W u m, Below w1.heap.size w1 W → MemR W (memV u m s.m.page s.m.screen s.m.locked) s.m → Calls Try.prog 10 #[.agg (snA s ux mx), .agg (snA s u m)] W fun r w' => r = .returned (.bool true) ∧ Below W.heap.size W w')
    (f : Nat → Bool) (e : Value × Value) (a : Act) (w : World) (hun : f 3 = false) (hdep : ∀ d ∈ n4_o3.after, Region.binds .any d = true → f d.on = true) (hJ : n4_J w1 bX bA s ux mx vr vm f e w) (hFr : Fr n4_O A f (fun j => n4_V bX bA s ux mx vr vm j e) a)
    (K : Act → World → Prop) (hK : Hid (∀ v e' w', v = n4_V bX bA s ux mx vr vm 3 e' → (∀ j, f j = true → n4_V bX bA s ux mx vr vm j e' = n4_V bX bA s ux mx vr vm j e) → n4_J w1 bX bA s ux mx vr vm (fun j => j == 3 || f j) e' w' → K (a.put n4_o3.dst v) w')) :
    if Region.wanted n4_o3 (yielded n4_O a.tmps) = true then Oper.wp Try.prog n4_o3 a w K Q else K (a.put n4_o3.dst undef) w := by
  unfold n4_o3 at hdep hK ⊢
  have hK9 := hK
  obtain ⟨hB, j2⟩ := hJ
  have k0 : f 0 = true := hdep { on := 0, ground := .data } (by simp) rfl
  have v40 : a.tmps.getD 40 undef = (.agg (snA s ux mx)) := hFr.new 0 40 rfl k0
  have k2 : f 2 = true := hdep { on := 2, ground := .data } (by simp) rfl
  have v42 : a.tmps.getD 42 undef = (.agg (snA s e.1 e.2)) := hFr.new 2 42 rfl k2
  have r2 := hid (j2 k2)
  replace hB := hid hB
  replace j2 := hid j2
  replace hT := hid hT
  replace hE := hid hE
  replace qX := hid qX
  replace qA := hid qA
  clear hdep hFr hx ha
  go_simp
  go_at_call 10
  refine (hE.out w _ _ hB.out r2.out).mono ?_
  rintro r w' ⟨rfl, hb'⟩
  replace hb' := hid hb'
  go_simp
  exact hK9.out _ e _ rfl (fun _ _ => rfl) ⟨new_trans hB.out hb'.out, fun h => (j2.out h).below hb'.out⟩
set_option maxRecDepth 100000 in
set_option maxHeartbeats 2000000 in
theorem n4_s4 (A : Act) (w1 : World) (Q : Exit → Act → World → Prop) (bX bA : Nat) (s : Sn) (ux mx vr vm : Value) 
    (hx : A.tmps.getD 8 undef = .pointer (some ⟨bX, 0, none⟩)) (ha : A.tmps.getD 3 undef = .pointer (some ⟨bA, 0, none⟩)) (qX : Blk w1 bX (snA s ux mx)) (qA : Blk w1 bA (snA s vr vm)) (hT : ∀ W, Below w1.heap.size w1 W → Calls Try.prog 8 #[.agg (snA s vr vm)] W fun r w' => ∃ u m, r = .returned (.agg (snA s u m)) ∧ MemR w' (memV u m s.m.page s.m.screen s.m.locked) s.m ∧ Below W.heap.size W w') (hE : ∀ W u m, Below w1.heap.size w1 W → MemR W (memV u m s.m.page s.m.screen s.m.locked) s.m → Calls Try.prog 10 #[.agg (snA s ux mx), .agg (snA s u m)] W fun r w' => r = .returned (.bool true) ∧ Below W.heap.size W w')
    (f : Nat → Bool) (e : Value × Value) (a : Act) (w : World) (hun : f 4 = false) (hdep : ∀ d ∈ n4_o4.after, Region.binds .any d = true → f d.on = true) (hJ : n4_J w1 bX bA s ux mx vr vm f e w) (hFr : Fr n4_O A f (fun j => n4_V bX bA s ux mx vr vm j e) a)
    (K : Act → World → Prop) (hK : Hid (∀ v e' w', v = n4_V bX bA s ux mx vr vm 4 e' → (∀ j, f j = true → n4_V bX bA s ux mx vr vm j e' = n4_V bX bA s ux mx vr vm j e) → n4_J w1 bX bA s ux mx vr vm (fun j => j == 4 || f j) e' w' → K (a.put n4_o4.dst v) w')) :
    if Region.wanted n4_o4 (yielded n4_O a.tmps) = true then Oper.wp Try.prog n4_o4 a w K Q else K (a.put n4_o4.dst undef) w := by
  unfold n4_o4 at hdep hK ⊢
  have hK9 := hK
  obtain ⟨hB, j2⟩ := hJ
  have k3 : f 3 = true := hdep { on := 3, ground := .data } (by simp) rfl
  have v43 : a.tmps.getD 43 undef = .bool true := hFr.new 3 43 rfl k3
  replace hB := hid hB
  replace j2 := hid j2
  replace hT := hid hT
  replace hE := hid hE
  replace qX := hid qX
  replace qA := hid qA
  clear hdep hFr hx ha
  go_simp
  exact hK9.out _ e _ rfl (fun _ _ => rfl) ⟨hB.out, j2.out⟩
set_option maxRecDepth 100000 in
set_option maxHeartbeats 4000000 in
theorem n4_reg (A : Act) (w1 : World) (Q : Exit → Act → World → Prop) (bX bA : Nat) (s : Sn) (ux mx vr vm : Value) 
    (hx : A.tmps.getD 8 undef = .pointer (some ⟨bX, 0, none⟩)) (ha : A.tmps.getD 3 undef = .pointer (some ⟨bA, 0, none⟩)) (qX : Blk w1 bX (snA s ux mx)) (qA : Blk w1 bA (snA s vr vm)) (hT : ∀ W, Below w1.heap.size w1 W → Calls Try.prog 8 #[.agg (snA s vr vm)] W fun r w' => ∃ u m, r = .returned (.agg (snA s u m)) ∧ MemR w' (memV u m s.m.page s.m.screen s.m.locked) s.m ∧ Below W.heap.size W w') (hE : ∀ W u m, Below w1.heap.size w1 W → MemR W (memV u m s.m.page s.m.screen s.m.locked) s.m → Calls Try.prog 10 #[.agg (snA s ux mx), .agg (snA s u m)] W fun r w' => r = .returned (.bool true) ∧ Below W.heap.size W w') (hN : 45 ≤ A.tmps.size)
    (h : ∀ (w : World) (e : Value × Value), Below w1.heap.size w1 w → Q .normal (putsA A [(40, (.agg (snA s ux mx))), (41, (.agg (snA s vr vm))), (42, (.agg (snA s e.1 e.2))), (43, .bool true), (44, .bool false)]) w) :
    (Code.region 16 #[({ dst := some 40, op := Op.load 39 (Operand.tmp 8), type := 39, pos := "exact.go:3051", after := #[], guard := none } : Oper), ({ dst := some 41, op := Op.load 32 (Operand.tmp 3), type := 32, pos := "exact.go:3051", after := #[], guard := none } : Oper), ({ dst := some 42, op := Op.call { callee := Callee.value (Operand.func 8), args := #[Operand.tmp 41], argTypes := #[32] }, type := 39, pos := "exact.go:3051", after := #[{ on := 1, ground := Ground.data }], guard := none } : Oper), ({ dst := some 43, op := Op.call { callee := Callee.value (Operand.func 10), args := #[Operand.tmp 40, Operand.tmp 42], argTypes := #[39, 39] }, type := 4, pos := "exact.go:3051", after := #[{ on := 0, ground := Ground.data }, { on := 2, ground := Ground.data }, { on := 2, ground := Ground.chain }], guard := none } : Oper), ({ dst := some 44, op := Op.unOp UnOp.not 4 (Operand.tmp 43), type := 4, pos := "exact.go:3051", after := #[{ on := 3, ground := Ground.data }], guard := none } : Oper)] true).wp Try.prog Q A w1 := by
  show (Code.region 16 n4_O true).wp Try.prog Q A w1
  refine wp_region_slots (E := Value × Value) (n4_V bX bA s ux mx vr vm) (n4_J w1 bX bA s ux mx vr vm) (by kernel_rfl) (by kernel_rfl) (by kernel_rfl) (fun i s hi => ?_) ?_ (undef, undef) ⟨(Below.refl _ _).drew, fun h => (by cases h)⟩ ?_
  · cases hc : ([40, 41, 42, 43, 44] : List Nat).contains s
    · exact absurd hi (n4_no hc i)
    · have : s ∈ ([40, 41, 42, 43, 44] : List Nat) := by simpa using hc
      simp only [List.mem_cons, List.not_mem_nil, or_false] at this
      omega
  · intro f e a w i o hi ho hun hdep hJ hFr K hK
    have hi8 : i < 5 := hi
    rcases (by omega : i = 0 ∨ i = 1 ∨ i = 2 ∨ i = 3 ∨ i = 4) with rfl | rfl | rfl | rfl | rfl
    · obtain rfl := Option.some.inj ho
      exact n4_s0 A w1 Q bX bA s ux mx vr vm hx ha qX qA hT hE f e a w hun hdep hJ hFr K hK
    · obtain rfl := Option.some.inj ho
      exact n4_s1 A w1 Q bX bA s ux mx vr vm hx ha qX qA hT hE f e a w hun hdep hJ hFr K hK
    · obtain rfl := Option.some.inj ho
      exact n4_s2 A w1 Q bX bA s ux mx vr vm hx ha qX qA hT hE f e a w hun hdep hJ hFr K hK
    · obtain rfl := Option.some.inj ho
      exact n4_s3 A w1 Q bX bA s ux mx vr vm hx ha qX qA hT hE f e a w hun hdep hJ hFr K hK
    · obtain rfl := Option.some.inj ho
      exact n4_s4 A w1 Q bX bA s ux mx vr vm hx ha qX qA hT hE f e a w hun hdep hJ hFr K hK
  · intro f e a w hall hJ hFr
    have := h w e hJ.1
    rw [hFr.eq [(40, (.agg (snA s ux mx))), (41, (.agg (snA s vr vm))), (42, (.agg (snA s e.1 e.2))), (43, .bool true), (44, .bool false)] (fun s hs => ?_) (fun i s hi => ?_)]
    · exact this
    · have hne : ∀ k ∈ ([40, 41, 42, 43, 44] : List Nat), k ≠ s := by
        intro k hk e2
        subst e2
        simp only [List.mem_cons, List.not_mem_nil, or_false] at hk
        rcases hk with rfl | rfl | rfl | rfl | rfl
        · exact hs 0 rfl
        · exact hs 1 rfl
        · exact hs 2 rfl
        · exact hs 3 rfl
        · exact hs 4 rfl
      simp only [lookA]
      simp [hne]
    · have hl : i < 5 := by
        rcases Nat.lt_or_ge i 5 with h1 | h1
        · exact h1
        · unfold dstAt at hi
          rw [Array.getElem?_eq_none (by exact h1)] at hi
          cases hi
      refine ⟨hall i hl, ?_⟩
      rcases (by omega : i = 0 ∨ i = 1 ∨ i = 2 ∨ i = 3 ∨ i = 4) with rfl | rfl | rfl | rfl | rfl
      all_goals first
        | (cases hi; rfl)
        | cases hi
def n5_V (bA bB : Nat) (s s2 : Sn) (vr vm vr2 vm2 : Value) (Q0 : Bool) : Nat → (Value × Value) × (Value × Value) → Value := fun i e => match i with
  | 0 => (.agg (snA s vr vm))
  | 1 => (.agg (snA s e.1.1 e.1.2))
  | 2 => (.agg (snA s2 vr2 vm2))
  | 3 => (.agg (snA s2 e.2.1 e.2.2))
  | 4 => .bool Q0
  | 5 => .bool Q0
  | _ => undef
def n5_J (w1 : World) (bA bB : Nat) (s s2 : Sn) (vr vm vr2 vm2 : Value) (Q0 : Bool) (f : Nat → Bool) (e : (Value × Value) × (Value × Value)) (w : World) : Prop :=
  Below w1.heap.size w1 w ∧ (f 1 = true → MemR w (memV e.1.1 e.1.2 s.m.page s.m.screen s.m.locked) s.m) ∧ (f 3 = true → MemR w (memV e.2.1 e.2.2 s2.m.page s2.m.screen s2.m.locked) s2.m)
def n5_o0 : Oper := ({ dst := some 20, op := Op.load 32 (Operand.tmp 2), type := 32, pos := "exact.go:3041", after := #[], guard := none } : Oper)
def n5_o1 : Oper := ({ dst := some 21, op := Op.call { callee := Callee.value (Operand.func 8), args := #[Operand.tmp 20], argTypes := #[32] }, type := 39, pos := "exact.go:3041", after := #[{ on := 0, ground := Ground.data }], guard := none } : Oper)
def n5_o2 : Oper := ({ dst := some 22, op := Op.load 32 (Operand.tmp 3), type := 32, pos := "exact.go:3041", after := #[], guard := none } : Oper)
def n5_o3 : Oper := ({ dst := some 23, op := Op.call { callee := Callee.value (Operand.func 8), args := #[Operand.tmp 22], argTypes := #[32] }, type := 39, pos := "exact.go:3041", after := #[{ on := 2, ground := Ground.data }, { on := 1, ground := Ground.chain }], guard := none } : Oper)
def n5_o4 : Oper := ({ dst := some 24, op := Op.call { callee := Callee.value (Operand.func 13), args := #[Operand.tmp 21, Operand.tmp 23], argTypes := #[39, 39] }, type := 4, pos := "exact.go:3041", after := #[{ on := 1, ground := Ground.data }, { on := 3, ground := Ground.data }, { on := 3, ground := Ground.chain }], guard := none } : Oper)
def n5_o5 : Oper := ({ dst := some 6, op := Op.assign (Operand.tmp 24), type := 4, pos := "exact.go:3041", after := #[{ on := 4, ground := Ground.data }, { on := 4, ground := Ground.chain }, { on := 0, ground := Ground.phase }, { on := 1, ground := Ground.phase }, { on := 2, ground := Ground.phase }, { on := 3, ground := Ground.phase }, { on := 4, ground := Ground.phase }], guard := none } : Oper)
def n5_O : Array Oper := #[n5_o0, n5_o1, n5_o2, n5_o3, n5_o4, n5_o5]
theorem n5_no {s : Nat} (h : ([20, 21, 22, 23, 24, 6] : List Nat).contains s = false) : ∀ i, dstAt n5_O i ≠ some s := by
  intro i hi
  have hl : i < 6 := by
    rcases Nat.lt_or_ge i 6 with h1 | h1
    · exact h1
    · unfold dstAt at hi
      rw [Array.getElem?_eq_none (by exact h1)] at hi
      cases hi
  rcases (by omega : i = 0 ∨ i = 1 ∨ i = 2 ∨ i = 3 ∨ i = 4 ∨ i = 5) with rfl | rfl | rfl | rfl | rfl | rfl
  all_goals first
    | (cases hi; simp at h)
    | cases hi
theorem n5_keep1 (bA bB : Nat) (s s2 : Sn) (vr vm vr2 vm2 : Value) (Q0 : Bool) {f : Nat → Bool} (e : (Value × Value) × (Value × Value)) (u m : Value) (hn : f 1 = false) : ∀ j, f j = true → n5_V bA bB s s2 vr vm vr2 vm2 Q0 j ((u, m), e.2) = n5_V bA bB s s2 vr vm vr2 vm2 Q0 j e := by
  intro j hj
  unfold n5_V
  split
  · rfl
  · rw [hn] at hj; cases hj
  · rfl
  · rfl
  · rfl
  · rfl
  · rfl
theorem n5_keep3 (bA bB : Nat) (s s2 : Sn) (vr vm vr2 vm2 : Value) (Q0 : Bool) {f : Nat → Bool} (e : (Value × Value) × (Value × Value)) (u m : Value) (hn : f 3 = false) : ∀ j, f j = true → n5_V bA bB s s2 vr vm vr2 vm2 Q0 j (e.1, (u, m)) = n5_V bA bB s s2 vr vm vr2 vm2 Q0 j e := by
  intro j hj
  unfold n5_V
  split
  · rfl
  · rfl
  · rfl
  · rw [hn] at hj; cases hj
  · rfl
  · rfl
  · rfl
set_option maxRecDepth 100000 in
set_option maxHeartbeats 2000000 in
theorem n5_s0 (A : Act) (w1 : World) (Q : Exit → Act → World → Prop) (bA bB : Nat) (s s2 : Sn) (vr vm vr2 vm2 : Value) (Q0 : Bool) 
    (ha : A.tmps.getD 2 undef = .pointer (some ⟨bA, 0, none⟩)) (hb : A.tmps.getD 3 undef = .pointer (some ⟨bB, 0, none⟩)) (qA : Blk w1 bA (snA s vr vm)) (qB : Blk w1 bB (snA s2 vr2 vm2)) (hTA : (∀ W, Below w1.heap.size w1 W → Calls Try.prog 8 #[.agg (snA s vr vm)] W fun r w' => ∃ u m, r = .returned (.agg (snA s u m)) ∧ MemR w' (memV u m s.m.page s.m.screen s.m.locked) s.m ∧ Below W.heap.size W w')) (hTB : (∀ W, Below w1.heap.size w1 W → Calls Try.prog 8 #[.agg (snA s2 vr2 vm2)] W fun r w' => ∃ u m, r = .returned (.agg (snA s2 u m)) ∧ MemR w' (memV u m s2.m.page s2.m.screen s2.m.locked) s2.m ∧ Below W.heap.size W w')) (hS : ∀ W u m u2 m2, MemR W (memV u m s.m.page s.m.screen s.m.locked) s.m → MemR W (memV u2 m2 s2.m.page s2.m.screen s2.m.locked) s2.m → Calls Try.prog 13 #[.agg (snA s u m), .agg (snA s2 u2 m2)] W fun r w' => r = .returned (.bool Q0) ∧ Below W.heap.size W w')
    (f : Nat → Bool) (e : (Value × Value) × (Value × Value)) (a : Act) (w : World) (hun : f 0 = false) (hdep : ∀ d ∈ n5_o0.after, Region.binds .any d = true → f d.on = true) (hJ : n5_J w1 bA bB s s2 vr vm vr2 vm2 Q0 f e w) (hFr : Fr n5_O A f (fun j => n5_V bA bB s s2 vr vm vr2 vm2 Q0 j e) a)
    (K : Act → World → Prop) (hK : Hid (∀ v e' w', v = n5_V bA bB s s2 vr vm vr2 vm2 Q0 0 e' → (∀ j, f j = true → n5_V bA bB s s2 vr vm vr2 vm2 Q0 j e' = n5_V bA bB s s2 vr vm vr2 vm2 Q0 j e) → n5_J w1 bA bB s s2 vr vm vr2 vm2 Q0 (fun j => j == 0 || f j) e' w' → K (a.put n5_o0.dst v) w')) :
    if Region.wanted n5_o0 (yielded n5_O a.tmps) = true then Oper.wp Try.prog n5_o0 a w K Q else K (a.put n5_o0.dst undef) w := by
  unfold n5_o0 at hdep hK ⊢
  have hK9 := hK
  obtain ⟨hB, j1, j3⟩ := hJ
  have v2 := (hFr.old 2 (n5_no (by decide))).trans ha
  have x0 := sn_all (qA.below hB qA.lt)
  rw [if_pos (show Region.wanted _ _ = true from rfl)]
  refine wp_load_mid 32 _ rfl bA 0 v2 (snA s vr vm).toList _ x0 Try.underlying32 rfl (szLS s vr vm) ?_
  exact hK9.out _ e _ rfl (fun _ _ => rfl) ⟨hB, j1, j3⟩
set_option maxRecDepth 100000 in
set_option maxHeartbeats 2000000 in
theorem n5_s1 (A : Act) (w1 : World) (Q : Exit → Act → World → Prop) (bA bB : Nat) (s s2 : Sn) (vr vm vr2 vm2 : Value) (Q0 : Bool) 
    (ha : A.tmps.getD 2 undef = .pointer (some ⟨bA, 0, none⟩)) (hb : A.tmps.getD 3 undef = .pointer (some ⟨bB, 0, none⟩)) (qA : Blk w1 bA (snA s vr vm)) (qB : Blk w1 bB (snA s2 vr2 vm2)) (hTA : (∀ W, Below w1.heap.size w1 W → Calls Try.prog 8 #[.agg (snA s vr vm)] W fun r w' => ∃ u m, r = .returned (.agg (snA s u m)) ∧ MemR w' (memV u m s.m.page s.m.screen s.m.locked) s.m ∧ Below W.heap.size W w')) (hTB : (∀ W, Below w1.heap.size w1 W → Calls Try.prog 8 #[.agg (snA s2 vr2 vm2)] W fun r w' => ∃ u m, r = .returned (.agg (snA s2 u m)) ∧ MemR w' (memV u m s2.m.page s2.m.screen s2.m.locked) s2.m ∧ Below W.heap.size W w')) (hS : ∀ W u m u2 m2, MemR W (memV u m s.m.page s.m.screen s.m.locked) s.m → MemR W (memV u2 m2 s2.m.page s2.m.screen s2.m.locked) s2.m → Calls Try.prog 13 #[.agg (snA s u m), .agg (snA s2 u2 m2)] W fun r w' => r = .returned (.bool Q0) ∧ Below W.heap.size W w')
    (f : Nat → Bool) (e : (Value × Value) × (Value × Value)) (a : Act) (w : World) (hun : f 1 = false) (hdep : ∀ d ∈ n5_o1.after, Region.binds .any d = true → f d.on = true) (hJ : n5_J w1 bA bB s s2 vr vm vr2 vm2 Q0 f e w) (hFr : Fr n5_O A f (fun j => n5_V bA bB s s2 vr vm vr2 vm2 Q0 j e) a)
    (K : Act → World → Prop) (hK : Hid (∀ v e' w', v = n5_V bA bB s s2 vr vm vr2 vm2 Q0 1 e' → (∀ j, f j = true → n5_V bA bB s s2 vr vm vr2 vm2 Q0 j e' = n5_V bA bB s s2 vr vm vr2 vm2 Q0 j e) → n5_J w1 bA bB s s2 vr vm vr2 vm2 Q0 (fun j => j == 1 || f j) e' w' → K (a.put n5_o1.dst v) w')) :
    if Region.wanted n5_o1 (yielded n5_O a.tmps) = true then Oper.wp Try.prog n5_o1 a w K Q else K (a.put n5_o1.dst undef) w := by
  unfold n5_o1 at hdep hK ⊢
  have hK9 := hK
  obtain ⟨hB, j1, j3⟩ := hJ
  have k0 : f 0 = true := hdep { on := 0, ground := .data } (by simp) rfl
  have v20 : a.tmps.getD 20 undef = (.agg (snA s vr vm)) := hFr.new 0 20 rfl k0
  replace hB := hid hB
  replace j1 := hid j1
  replace j3 := hid j3
  replace hTA := hid hTA
  replace hTB := hid hTB
  replace hS := hid hS
  replace qA := hid qA
  replace qB := hid qB
  clear hdep hFr ha hb
  go_simp
  go_at_call 8
  refine (hTA.out w hB.out).mono ?_
  rintro r w' ⟨u, m, rfl, hm', hb'⟩
  replace hm' := hid hm'
  replace hb' := hid hb'
  go_simp
  exact hK9.out _ ((u, m), e.2) _ rfl (n5_keep1 bA bB s s2 vr vm vr2 vm2 Q0 e u m hun) ⟨new_trans hB.out hb'.out, fun _ => hm'.out, fun h => (j3.out h).below hb'.out⟩
set_option maxRecDepth 100000 in
set_option maxHeartbeats 2000000 in
theorem n5_s2 (A : Act) (w1 : World) (Q : Exit → Act → World → Prop) (bA bB : Nat) (s s2 : Sn) (vr vm vr2 vm2 : Value) (Q0 : Bool) 
    (ha : A.tmps.getD 2 undef = .pointer (some ⟨bA, 0, none⟩)) (hb : A.tmps.getD 3 undef = .pointer (some ⟨bB, 0, none⟩)) (qA : Blk w1 bA (snA s vr vm)) (qB : Blk w1 bB (snA s2 vr2 vm2)) (hTA : (∀ W, Below w1.heap.size w1 W → Calls Try.prog 8 #[.agg (snA s vr vm)] W fun r w' => ∃ u m, r = .returned (.agg (snA s u m)) ∧ MemR w' (memV u m s.m.page s.m.screen s.m.locked) s.m ∧ Below W.heap.size W w')) (hTB : (∀ W, Below w1.heap.size w1 W → Calls Try.prog 8 #[.agg (snA s2 vr2 vm2)] W fun r w' => ∃ u m, r = .returned (.agg (snA s2 u m)) ∧ MemR w' (memV u m s2.m.page s2.m.screen s2.m.locked) s2.m ∧ Below W.heap.size W w')) (hS : ∀ W u m u2 m2, MemR W (memV u m s.m.page s.m.screen s.m.locked) s.m → MemR W (memV u2 m2 s2.m.page s2.m.screen s2.m.locked) s2.m → Calls Try.prog 13 #[.agg (snA s u m), .agg (snA s2 u2 m2)] W fun r w' => r = .returned (.bool Q0) ∧ Below W.heap.size W w')
    (f : Nat → Bool) (e : (Value × Value) × (Value × Value)) (a : Act) (w : World) (hun : f 2 = false) (hdep : ∀ d ∈ n5_o2.after, Region.binds .any d = true → f d.on = true) (hJ : n5_J w1 bA bB s s2 vr vm vr2 vm2 Q0 f e w) (hFr : Fr n5_O A f (fun j => n5_V bA bB s s2 vr vm vr2 vm2 Q0 j e) a)
    (K : Act → World → Prop) (hK : Hid (∀ v e' w', v = n5_V bA bB s s2 vr vm vr2 vm2 Q0 2 e' → (∀ j, f j = true → n5_V bA bB s s2 vr vm vr2 vm2 Q0 j e' = n5_V bA bB s s2 vr vm vr2 vm2 Q0 j e) → n5_J w1 bA bB s s2 vr vm vr2 vm2 Q0 (fun j => j == 2 || f j) e' w' → K (a.put n5_o2.dst v) w')) :
    if Region.wanted n5_o2 (yielded n5_O a.tmps) = true then Oper.wp Try.prog n5_o2 a w K Q else K (a.put n5_o2.dst undef) w := by
  unfold n5_o2 at hdep hK ⊢
  have hK9 := hK
  obtain ⟨hB, j1, j3⟩ := hJ
  have v3 := (hFr.old 3 (n5_no (by decide))).trans hb
  have x0 := sn_all (qB.below hB qB.lt)
  rw [if_pos (show Region.wanted _ _ = true from rfl)]
  refine wp_load_mid 32 _ rfl bB 0 v3 (snA s2 vr2 vm2).toList _ x0 Try.underlying32 rfl (szLS s2 vr2 vm2) ?_
  exact hK9.out _ e _ rfl (fun _ _ => rfl) ⟨hB, j1, j3⟩
set_option maxRecDepth 100000 in
set_option maxHeartbeats 2000000 in
theorem n5_s3 (A : Act) (w1 : World) (Q : Exit → Act → World → Prop) (bA bB : Nat) (s s2 : Sn) (vr vm vr2 vm2 : Value) (Q0 : Bool) 
    (ha : A.tmps.getD 2 undef = .pointer (some ⟨bA, 0, none⟩)) (hb : A.tmps.getD 3 undef = .pointer (some ⟨bB, 0, none⟩)) (qA : Blk w1 bA (snA s vr vm)) (qB : Blk w1 bB (snA s2 vr2 vm2)) (hTA : (∀ W, Below w1.heap.size w1 W → Calls Try.prog 8 #[.agg (snA s vr vm)] W fun r w' => ∃ u m, r = .returned (.agg (snA s u m)) ∧ MemR w' (memV u m s.m.page s.m.screen s.m.locked) s.m ∧ Below W.heap.size W w')) (hTB : (∀ W, Below w1.heap.size w1 W → Calls Try.prog 8 #[.agg (snA s2 vr2 vm2)] W fun r w' => ∃ u m, r = .returned (.agg (snA s2 u m)) ∧ MemR w' (memV u m s2.m.page s2.m.screen s2.m.locked) s2.m ∧ Below W.heap.size W w')) (hS : ∀ W u m u2 m2, MemR W (memV u m s.m.page s.m.screen s.m.locked) s.m → MemR W (memV u2 m2 s2.m.page s2.m.screen s2.m.locked) s2.m → Calls Try.prog 13 #[.agg (snA s u m), .agg (snA s2 u2 m2)] W fun r w' => r = .returned (.bool Q0) ∧ Below W.heap.size W w')
    (f : Nat → Bool) (e : (Value × Value) × (Value × Value)) (a : Act) (w : World) (hun : f 3 = false) (hdep : ∀ d ∈ n5_o3.after, Region.binds .any d = true → f d.on = true) (hJ : n5_J w1 bA bB s s2 vr vm vr2 vm2 Q0 f e w) (hFr : Fr n5_O A f (fun j => n5_V bA bB s s2 vr vm vr2 vm2 Q0 j e) a)
    (K : Act → World → Prop) (hK : Hid (∀ v e' w', v = n5_V bA bB s s2 vr vm vr2 vm2 Q0 3 e' → (∀ j, f j = true → n5_V bA bB s s2 vr vm vr2 vm2 Q0 j e' = n5_V bA bB s s2 vr vm vr2 vm2 Q0 j e) → n5_J w1 bA bB s s2 vr vm vr2 vm2 Q0 (fun j => j == 3 || f j) e' w' → K (a.put n5_o3.dst v) w')) :
    if Region.wanted n5_o3 (yielded n5_O a.tmps) = true then Oper.wp Try.prog n5_o3 a w K Q else K (a.put n5_o3.dst undef) w := by
  unfold n5_o3 at hdep hK ⊢
  have hK9 := hK
  obtain ⟨hB, j1, j3⟩ := hJ
  have k2 : f 2 = true := hdep { on := 2, ground := .data } (by simp) rfl
  have v22 : a.tmps.getD 22 undef = (.agg (snA s2 vr2 vm2)) := hFr.new 2 22 rfl k2
  replace hB := hid hB
  replace j1 := hid j1
  replace j3 := hid j3
  replace hTA := hid hTA
  replace hTB := hid hTB
  replace hS := hid hS
  replace qA := hid qA
  replace qB := hid qB
  clear hdep hFr ha hb
  go_simp
  go_at_call 8
  refine (hTB.out w hB.out).mono ?_
  rintro r w' ⟨u, m, rfl, hm', hb'⟩
  replace hm' := hid hm'
  replace hb' := hid hb'
  go_simp
  exact hK9.out _ (e.1, (u, m)) _ rfl (n5_keep3 bA bB s s2 vr vm vr2 vm2 Q0 e u m hun) ⟨new_trans hB.out hb'.out, fun h => (j1.out h).below hb'.out, fun _ => hm'.out⟩
set_option maxRecDepth 100000 in
set_option maxHeartbeats 2000000 in
theorem n5_s4 (A : Act) (w1 : World) (Q : Exit → Act → World → Prop) (bA bB : Nat) (s s2 : Sn) (vr vm vr2 vm2 : Value) (Q0 : Bool) 
    (ha : A.tmps.getD 2 undef = .pointer (some ⟨bA, 0, none⟩)) (hb : A.tmps.getD 3 undef = .pointer (some ⟨bB, 0, none⟩)) (qA : Blk w1 bA (snA s vr vm)) (qB : Blk w1 bB (snA s2 vr2 vm2)) (hTA : (∀ W, Below w1.heap.size w1 W → Calls Try.prog 8 #[.agg (snA s vr vm)] W fun r w' => ∃ u m, r = .returned (.agg (snA s u m)) ∧ MemR w' (memV u m s.m.page s.m.screen s.m.locked) s.m ∧ Below W.heap.size W w')) (hTB : (∀ W, Below w1.heap.size w1 W → Calls Try.prog 8 #[.agg (snA s2 vr2 vm2)] W fun r w' => ∃ u m, r = .returned (.agg (snA s2 u m)) ∧ MemR w' (memV u m s2.m.page s2.m.screen s2.m.locked) s2.m ∧ Below W.heap.size W w')) (hS : ∀ W u m u2 m2, MemR W (memV u m s.m.page s.m.screen s.m.locked) s.m → MemR W (memV u2 m2 s2.m.page s2.m.screen s2.m.locked) s2.m → Calls Try.prog 13 #[.agg (snA s u m), .agg (snA s2 u2 m2)] W fun r w' => r = .returned (.bool Q0) ∧ Below W.heap.size W w')
    (f : Nat → Bool) (e : (Value × Value) × (Value × Value)) (a : Act) (w : World) (hun : f 4 = false) (hdep : ∀ d ∈ n5_o4.after, Region.binds .any d = true → f d.on = true) (hJ : n5_J w1 bA bB s s2 vr vm vr2 vm2 Q0 f e w) (hFr : Fr n5_O A f (fun j => n5_V bA bB s s2 vr vm vr2 vm2 Q0 j e) a)
    (K : Act → World → Prop) (hK : Hid (∀ v e' w', v = n5_V bA bB s s2 vr vm vr2 vm2 Q0 4 e' → (∀ j, f j = true → n5_V bA bB s s2 vr vm vr2 vm2 Q0 j e' = n5_V bA bB s s2 vr vm vr2 vm2 Q0 j e) → n5_J w1 bA bB s s2 vr vm vr2 vm2 Q0 (fun j => j == 4 || f j) e' w' → K (a.put n5_o4.dst v) w')) :
    if Region.wanted n5_o4 (yielded n5_O a.tmps) = true then Oper.wp Try.prog n5_o4 a w K Q else K (a.put n5_o4.dst undef) w := by
  unfold n5_o4 at hdep hK ⊢
  have hK9 := hK
  obtain ⟨hB, j1, j3⟩ := hJ
  have k1 : f 1 = true := hdep { on := 1, ground := .data } (by simp) rfl
  have v21 : a.tmps.getD 21 undef = (.agg (snA s e.1.1 e.1.2)) := hFr.new 1 21 rfl k1
  have k3 : f 3 = true := hdep { on := 3, ground := .data } (by simp) rfl
  have v23 : a.tmps.getD 23 undef = (.agg (snA s2 e.2.1 e.2.2)) := hFr.new 3 23 rfl k3
  have r1 := hid (j1 k1)
  have r3 := hid (j3 k3)
  replace hB := hid hB
  replace j1 := hid j1
  replace j3 := hid j3
  replace hTA := hid hTA
  replace hTB := hid hTB
  replace hS := hid hS
  replace qA := hid qA
  replace qB := hid qB
  clear hdep hFr ha hb
  go_simp
  go_at_call 13
  refine (hS.out w _ _ _ _ r1.out r3.out).mono ?_
  rintro r w' ⟨rfl, hb'⟩
  replace hb' := hid hb'
  go_simp
  exact hK9.out _ e _ rfl (fun _ _ => rfl) ⟨new_trans hB.out hb'.out, fun h => (j1.out h).below hb'.out, fun h => (j3.out h).below hb'.out⟩
set_option maxRecDepth 100000 in
set_option maxHeartbeats 2000000 in
theorem n5_s5 (A : Act) (w1 : World) (Q : Exit → Act → World → Prop) (bA bB : Nat) (s s2 : Sn) (vr vm vr2 vm2 : Value) (Q0 : Bool) 
    (ha : A.tmps.getD 2 undef = .pointer (some ⟨bA, 0, none⟩)) (hb : A.tmps.getD 3 undef = .pointer (some ⟨bB, 0, none⟩)) (qA : Blk w1 bA (snA s vr vm)) (qB : Blk w1 bB (snA s2 vr2 vm2)) (hTA : (∀ W, Below w1.heap.size w1 W → Calls Try.prog 8 #[.agg (snA s vr vm)] W fun r w' => ∃ u m, r = .returned (.agg (snA s u m)) ∧ MemR w' (memV u m s.m.page s.m.screen s.m.locked) s.m ∧ Below W.heap.size W w')) (hTB : (∀ W, Below w1.heap.size w1 W → Calls Try.prog 8 #[.agg (snA s2 vr2 vm2)] W fun r w' => ∃ u m, r = .returned (.agg (snA s2 u m)) ∧ MemR w' (memV u m s2.m.page s2.m.screen s2.m.locked) s2.m ∧ Below W.heap.size W w')) (hS : ∀ W u m u2 m2, MemR W (memV u m s.m.page s.m.screen s.m.locked) s.m → MemR W (memV u2 m2 s2.m.page s2.m.screen s2.m.locked) s2.m → Calls Try.prog 13 #[.agg (snA s u m), .agg (snA s2 u2 m2)] W fun r w' => r = .returned (.bool Q0) ∧ Below W.heap.size W w')
    (f : Nat → Bool) (e : (Value × Value) × (Value × Value)) (a : Act) (w : World) (hun : f 5 = false) (hdep : ∀ d ∈ n5_o5.after, Region.binds .any d = true → f d.on = true) (hJ : n5_J w1 bA bB s s2 vr vm vr2 vm2 Q0 f e w) (hFr : Fr n5_O A f (fun j => n5_V bA bB s s2 vr vm vr2 vm2 Q0 j e) a)
    (K : Act → World → Prop) (hK : Hid (∀ v e' w', v = n5_V bA bB s s2 vr vm vr2 vm2 Q0 5 e' → (∀ j, f j = true → n5_V bA bB s s2 vr vm vr2 vm2 Q0 j e' = n5_V bA bB s s2 vr vm vr2 vm2 Q0 j e) → n5_J w1 bA bB s s2 vr vm vr2 vm2 Q0 (fun j => j == 5 || f j) e' w' → K (a.put n5_o5.dst v) w')) :
    if Region.wanted n5_o5 (yielded n5_O a.tmps) = true then Oper.wp Try.prog n5_o5 a w K Q else K (a.put n5_o5.dst undef) w := by
  unfold n5_o5 at hdep hK ⊢
  have hK9 := hK
  obtain ⟨hB, j1, j3⟩ := hJ
  have k4 : f 4 = true := hdep { on := 4, ground := .data } (by simp) rfl
  have v24 : a.tmps.getD 24 undef = .bool Q0 := hFr.new 4 24 rfl k4
  replace hB := hid hB
  replace j1 := hid j1
  replace j3 := hid j3
  replace hTA := hid hTA
  replace hTB := hid hTB
  replace hS := hid hS
  replace qA := hid qA
  replace qB := hid qB
  clear hdep hFr ha hb
  go_simp
  exact hK9.out _ e _ rfl (fun _ _ => rfl) ⟨hB.out, j1.out, j3.out⟩
set_option maxRecDepth 100000 in
set_option maxHeartbeats 4000000 in
theorem n5_reg (A : Act) (w1 : World) (Q : Exit → Act → World → Prop) (bA bB : Nat) (s s2 : Sn) (vr vm vr2 vm2 : Value) (Q0 : Bool) 
    (ha : A.tmps.getD 2 undef = .pointer (some ⟨bA, 0, none⟩)) (hb : A.tmps.getD 3 undef = .pointer (some ⟨bB, 0, none⟩)) (qA : Blk w1 bA (snA s vr vm)) (qB : Blk w1 bB (snA s2 vr2 vm2)) (hTA : (∀ W, Below w1.heap.size w1 W → Calls Try.prog 8 #[.agg (snA s vr vm)] W fun r w' => ∃ u m, r = .returned (.agg (snA s u m)) ∧ MemR w' (memV u m s.m.page s.m.screen s.m.locked) s.m ∧ Below W.heap.size W w')) (hTB : (∀ W, Below w1.heap.size w1 W → Calls Try.prog 8 #[.agg (snA s2 vr2 vm2)] W fun r w' => ∃ u m, r = .returned (.agg (snA s2 u m)) ∧ MemR w' (memV u m s2.m.page s2.m.screen s2.m.locked) s2.m ∧ Below W.heap.size W w')) (hS : ∀ W u m u2 m2, MemR W (memV u m s.m.page s.m.screen s.m.locked) s.m → MemR W (memV u2 m2 s2.m.page s2.m.screen s2.m.locked) s2.m → Calls Try.prog 13 #[.agg (snA s u m), .agg (snA s2 u2 m2)] W fun r w' => r = .returned (.bool Q0) ∧ Below W.heap.size W w') (hN : 25 ≤ A.tmps.size)
    (h : ∀ (w : World) (e : (Value × Value) × (Value × Value)), Below w1.heap.size w1 w → Q .normal (putsA A [(20, (.agg (snA s vr vm))), (21, (.agg (snA s e.1.1 e.1.2))), (22, (.agg (snA s2 vr2 vm2))), (23, (.agg (snA s2 e.2.1 e.2.2))), (24, .bool Q0), (6, .bool Q0)]) w) :
    (Code.region 8 #[({ dst := some 20, op := Op.load 32 (Operand.tmp 2), type := 32, pos := "exact.go:3041", after := #[], guard := none } : Oper), ({ dst := some 21, op := Op.call { callee := Callee.value (Operand.func 8), args := #[Operand.tmp 20], argTypes := #[32] }, type := 39, pos := "exact.go:3041", after := #[{ on := 0, ground := Ground.data }], guard := none } : Oper), ({ dst := some 22, op := Op.load 32 (Operand.tmp 3), type := 32, pos := "exact.go:3041", after := #[], guard := none } : Oper), ({ dst := some 23, op := Op.call { callee := Callee.value (Operand.func 8), args := #[Operand.tmp 22], argTypes := #[32] }, type := 39, pos := "exact.go:3041", after := #[{ on := 2, ground := Ground.data }, { on := 1, ground := Ground.chain }], guard := none } : Oper), ({ dst := some 24, op := Op.call { callee := Callee.value (Operand.func 13), args := #[Operand.tmp 21, Operand.tmp 23], argTypes := #[39, 39] }, type := 4, pos := "exact.go:3041", after := #[{ on := 1, ground := Ground.data }, { on := 3, ground := Ground.data }, { on := 3, ground := Ground.chain }], guard := none } : Oper), ({ dst := some 6, op := Op.assign (Operand.tmp 24), type := 4, pos := "exact.go:3041", after := #[{ on := 4, ground := Ground.data }, { on := 4, ground := Ground.chain }, { on := 0, ground := Ground.phase }, { on := 1, ground := Ground.phase }, { on := 2, ground := Ground.phase }, { on := 3, ground := Ground.phase }, { on := 4, ground := Ground.phase }], guard := none } : Oper)] true).wp Try.prog Q A w1 := by
  show (Code.region 8 n5_O true).wp Try.prog Q A w1
  refine wp_region_slots (E := (Value × Value) × (Value × Value)) (n5_V bA bB s s2 vr vm vr2 vm2 Q0) (n5_J w1 bA bB s s2 vr vm vr2 vm2 Q0) (by kernel_rfl) (by kernel_rfl) (by kernel_rfl) (fun i s hi => ?_) ?_ ((undef, undef), (undef, undef)) ⟨(Below.refl _ _).drew, fun h => (by cases h), fun h => (by cases h)⟩ ?_
  · cases hc : ([20, 21, 22, 23, 24, 6] : List Nat).contains s
    · exact absurd hi (n5_no hc i)
    · have : s ∈ ([20, 21, 22, 23, 24, 6] : List Nat) := by simpa using hc
      simp only [List.mem_cons, List.not_mem_nil, or_false] at this
      omega
  · intro f e a w i o hi ho hun hdep hJ hFr K hK
    have hi8 : i < 6 := hi
    rcases (by omega : i = 0 ∨ i = 1 ∨ i = 2 ∨ i = 3 ∨ i = 4 ∨ i = 5) with rfl | rfl | rfl | rfl | rfl | rfl
    · obtain rfl := Option.some.inj ho
      exact n5_s0 A w1 Q bA bB s s2 vr vm vr2 vm2 Q0 ha hb qA qB hTA hTB hS f e a w hun hdep hJ hFr K hK
    · obtain rfl := Option.some.inj ho
      exact n5_s1 A w1 Q bA bB s s2 vr vm vr2 vm2 Q0 ha hb qA qB hTA hTB hS f e a w hun hdep hJ hFr K hK
    · obtain rfl := Option.some.inj ho
      exact n5_s2 A w1 Q bA bB s s2 vr vm vr2 vm2 Q0 ha hb qA qB hTA hTB hS f e a w hun hdep hJ hFr K hK
    · obtain rfl := Option.some.inj ho
      exact n5_s3 A w1 Q bA bB s s2 vr vm vr2 vm2 Q0 ha hb qA qB hTA hTB hS f e a w hun hdep hJ hFr K hK
    · obtain rfl := Option.some.inj ho
      exact n5_s4 A w1 Q bA bB s s2 vr vm vr2 vm2 Q0 ha hb qA qB hTA hTB hS f e a w hun hdep hJ hFr K hK
    · obtain rfl := Option.some.inj ho
      exact n5_s5 A w1 Q bA bB s s2 vr vm vr2 vm2 Q0 ha hb qA qB hTA hTB hS f e a w hun hdep hJ hFr K hK
  · intro f e a w hall hJ hFr
    have := h w e hJ.1
    rw [hFr.eq [(20, (.agg (snA s vr vm))), (21, (.agg (snA s e.1.1 e.1.2))), (22, (.agg (snA s2 vr2 vm2))), (23, (.agg (snA s2 e.2.1 e.2.2))), (24, .bool Q0), (6, .bool Q0)] (fun s hs => ?_) (fun i s hi => ?_)]
    · exact this
    · have hne : ∀ k ∈ ([20, 21, 22, 23, 24, 6] : List Nat), k ≠ s := by
        intro k hk e2
        subst e2
        simp only [List.mem_cons, List.not_mem_nil, or_false] at hk
        rcases hk with rfl | rfl | rfl | rfl | rfl | rfl
        · exact hs 0 rfl
        · exact hs 1 rfl
        · exact hs 2 rfl
        · exact hs 3 rfl
        · exact hs 4 rfl
        · exact hs 5 rfl
      simp only [lookA]
      simp [hne]
    · have hl : i < 6 := by
        rcases Nat.lt_or_ge i 6 with h1 | h1
        · exact h1
        · unfold dstAt at hi
          rw [Array.getElem?_eq_none (by exact h1)] at hi
          cases hi
      refine ⟨hall i hl, ?_⟩
      rcases (by omega : i = 0 ∨ i = 1 ∨ i = 2 ∨ i = 3 ∨ i = 4 ∨ i = 5) with rfl | rfl | rfl | rfl | rfl | rfl
      all_goals first
        | (cases hi; rfl)
        | cases hi
end Go.Proofs.Ytghcagibdcblnaa
