/- What the row's list of the table of lengths gives. -/
import Derived.Test.YtifcdojaocndhaaDoorC39
import Derived.Test.YtifcdojaocndhaaDoorRows
import Derived.Test.YtifcdojaocndhaaDoorC45
import Derived.Test.YtifcdojaocndhaaDoorWehc
namespace Go.Proofs.YtifcdojaocndhaaDoor
open Go.ChangeShapes Go.WideShapes Go.ChangeAt Go.RowKit
set_option linter.unusedVariables false

theorem gTimes : Tryd.prog.globalNamed "loop.example/g00644/impl.cycleTimes" = some 1 := by kernel_rfl
theorem tTimes : (Tryd.prog.globals[1]?).map (·.type) = some 158 := by kernel_rfl
theorem times_reads {W : World} {held : Bool} {cs : Array Value} {fuel : Nat} {p : List MemPlace} (hv : World.var? Tryd.prog W "loop.example/g00644/impl.cycleTimes" = some cs)
    (h : DataW.trod (fun _ => ()) Tryd.prog W 0 (fun _ => true) held fuel 158 cs.toList = some (Rows.laid_loop_example_g00644_impl_cycleTimes, p)) : Times W := by
  obtain ⟨xs, m1, rfl, hx1, hlen, hn, hel⟩ := DataW.trod_array Tryd.underlying158 h
  have c1 : Tryd.prog.cellsOf 3 = 1 := by kernel_rfl
  have hd : xs.map (·.1) = [(.lit (.int .i64 0) : DataW Unit), .lit (.int .i64 4), .lit (.int .i64 3), .lit (.int .i64 3), .lit (.int .i64 4), .lit (.int .i64 4)] := by
    have := congrArg Prod.fst hx1
    simp only [Rows.laid_loop_example_g00644_impl_cycleTimes, DataW.agg.injEq] at this
    exact this.symm
  intro i hi
  have h0 := hel i hi
  rw [c1, Nat.mul_one] at h0
  have hxi : xs[i]? = some xs[i] := List.getElem?_eq_getElem (by omega)
  rw [hxi] at h0
  obtain ⟨n, e1, e2, _⟩ := DataW.trod_int Tryd.underlying3 h0
  have hcs : cs[i]? = some (.int .i64 n) := by
    have := congrArg (·[0]?) e1
    simpa [List.getElem?_take, List.getElem?_drop] using this
  rw [World.var?_cell gTimes hv i, hcs]
  have hz : (xs.map (·.1))[i]? = some (DataW.lit (.int .i64 (tmI i)) : DataW Unit) := by
    rw [hd]
    rcases (by omega : i = 0 ∨ i = 1 ∨ i = 2 ∨ i = 3 ∨ i = 4 ∨ i = 5) with rfl | rfl | rfl | rfl | rfl | rfl <;> rfl
  rw [List.getElem?_map, hxi, e2] at hz
  simp at hz
  rw [hz]
theorem times_of {W : World} (h : laidMetH Tryd.prog [("loop.example/g00644/impl.cycleTimes", Rows.laid_loop_example_g00644_impl_cycleTimes)] W) : Times W := by
  rw [MakeChecks.laidMetH_plain _ _ _ (by kernel_rfl)] at h
  obtain ⟨ps, ⟨g0, t0, cs0, f0, p0, q0, hg0, ht0, hv0, hd0, _⟩, _⟩ := h
  obtain rfl := Option.some.inj (gTimes.symm.trans hg0)
  obtain rfl := Option.some.inj (tTimes.symm.trans ht0)
  exact times_reads hv0 hd0
end Go.Proofs.YtifcdojaocndhaaDoor

/- CyclesTime's law: its drawn statement, and the row's list. -/
namespace Go.Proofs.YtifcdojaocndhaaDoor
open Go.ChangeShapes Go.WideShapes Go.ChangeAt Go.RowKit
set_option linter.unusedVariables false
set_option linter.unusedSimpArgs false

theorem time3_of {W : World} (h : laidMetH Tryd.prog [("loop.example/g00644/impl.waitPattern", Rows.laid_loop_example_g00644_impl_waitPattern), ("loop.example/g00644/impl.cycleTimes", Rows.laid_loop_example_g00644_impl_cycleTimes), ("loop.example/g00644/impl.psgBits", Rows.laid_loop_example_g00644_impl_psgBits)] W) : PBit W ∧ Pat W ∧ Times W := by
  rw [MakeChecks.laidMetH_plain _ _ _ (by kernel_rfl)] at h
  obtain ⟨h0, h⟩ := laid_twoM h
  obtain ⟨h1, h2⟩ := laid_twoM h
  exact ⟨pbit_of (by rw [MakeChecks.laidMetH_plain _ _ _ (by kernel_rfl)]; exact h2), pat_of (by rw [MakeChecks.laidMetH_plain _ _ _ (by kernel_rfl)]; exact h0), times_of (by rw [MakeChecks.laidMetH_plain _ _ _ (by kernel_rfl)]; exact h1)⟩
def w3f_V (bX bA : Nat) (x : Mc) (ur um ud ue vr vm vd ve : Value) : Nat → Value → Value := fun i e => match i with
  | 0 => (.agg (mcA x ur um ud ue))
  | 1 => (.agg (mcA x vr vm vd ve))
  | 2 => e
  | 3 => .bool true
  | 4 => .bool false
  | _ => undef
def w3f_J (w1 : World) (bX bA : Nat) (x : Mc) (ur um ud ue vr vm vd ve : Value) (f : Nat → Bool) (e : Value) (w : World) : Prop :=
  Below w1.heap.size w1 w ∧ (f 2 = true → MacB w e x)
def w3f_o0 : Oper := ({ dst := some 48, op := Op.load 41 (Operand.tmp 8), type := 41, pos := "exact.go:3143", after := #[], guard := none } : Oper)
def w3f_o1 : Oper := ({ dst := some 49, op := Op.load 58 (Operand.tmp 2), type := 58, pos := "exact.go:3143", after := #[], guard := none } : Oper)
def w3f_o2 : Oper := ({ dst := some 50, op := Op.call { callee := Callee.value (Operand.func 19), args := #[Operand.tmp 49], argTypes := #[58] }, type := 41, pos := "exact.go:3143", after := #[{ on := 1, ground := Ground.data }], guard := none } : Oper)
def w3f_o3 : Oper := ({ dst := some 51, op := Op.call { callee := Callee.value (Operand.func 11), args := #[Operand.tmp 48, Operand.tmp 50], argTypes := #[41, 41] }, type := 4, pos := "exact.go:3143", after := #[{ on := 0, ground := Ground.data }, { on := 2, ground := Ground.data }, { on := 2, ground := Ground.chain }], guard := none } : Oper)
def w3f_o4 : Oper := ({ dst := some 52, op := Op.unOp UnOp.not 4 (Operand.tmp 51), type := 4, pos := "exact.go:3143", after := #[{ on := 3, ground := Ground.data }], guard := none } : Oper)
def w3f_O : Array Oper := #[w3f_o0, w3f_o1, w3f_o2, w3f_o3, w3f_o4]
theorem w3f_no {s : Nat} (h : ([48, 49, 50, 51, 52] : List Nat).contains s = false) : ∀ i, dstAt w3f_O i ≠ some s := by
  intro i hi
  have hl : i < 5 := by
    rcases Nat.lt_or_ge i 5 with h1 | h1
    · exact h1
    · unfold dstAt at hi
      rw [Array.getElem?_eq_none (by exact h1)] at hi
      cases hi
  rcases (by omega : i = 0 ∨ i = 1 ∨ i = 2 ∨ i = 3 ∨ i = 4) with rfl | rfl | rfl | rfl | rfl
  all_goals first
    | (cases hi; simp at h)
    | cases hi
theorem w3f_keep (bX bA : Nat) (x : Mc) (ur um ud ue vr vm vd ve : Value) {f : Nat → Bool} (e : Value) (u : Value) (hn : f 2 = false) : ∀ j, f j = true → w3f_V bX bA x ur um ud ue vr vm vd ve j u = w3f_V bX bA x ur um ud ue vr vm vd ve j e := by
  intro j hj
  unfold w3f_V
  split
  · rfl
  · rfl
  · rw [hn] at hj; cases hj
  · rfl
  · rfl
  · rfl
set_option maxRecDepth 100000 in
set_option maxHeartbeats 2000000 in
theorem w3f_s0 (A : Act) (w1 : World) (Q : Exit → Act → World → Prop) (bX bA : Nat) (x : Mc) (ur um ud ue vr vm vd ve : Value) 
    (hx : A.tmps.getD 8 undef = .pointer (some ⟨bX, 0, none⟩)) (ha : A.tmps.getD 2 undef = .pointer (some ⟨bA, 0, none⟩)) (qX : Blk w1 bX (mcA x ur um ud ue)) (qA : Blk w1 bA (mcA x vr vm vd ve)) (hT : ∀ W, Below w1.heap.size w1 W → Calls Tryd.prog 19 #[.agg (mcA x vr vm vd ve)] W fun r w' => ∃ v, r = .returned v ∧ MacB w' v x ∧ Below W.heap.size W w') (hE : ∀ W v, Below w1.heap.size w1 W → MacB W v x → Calls Tryd.prog 11 #[.agg (mcA x ur um ud ue), v] W fun r w' => r = .returned (.bool true) ∧ Below W.heap.size W w')
    (f : Nat → Bool) (e : Value) (a : Act) (w : World) (hun : f 0 = false) (hdep : ∀ d ∈ w3f_o0.after, Region.binds .any d = true → f d.on = true) (hJ : w3f_J w1 bX bA x ur um ud ue vr vm vd ve f e w) (hFr : Fr w3f_O A f (fun j => w3f_V bX bA x ur um ud ue vr vm vd ve j e) a)
    (K : Act → World → Prop) (hK : Hid (∀ v e' w', v = w3f_V bX bA x ur um ud ue vr vm vd ve 0 e' → (∀ j, f j = true → w3f_V bX bA x ur um ud ue vr vm vd ve j e' = w3f_V bX bA x ur um ud ue vr vm vd ve j e) → w3f_J w1 bX bA x ur um ud ue vr vm vd ve (fun j => j == 0 || f j) e' w' → K (a.put w3f_o0.dst v) w')) :
    if Region.wanted w3f_o0 (yielded w3f_O a.tmps) = true then Oper.wp Tryd.prog w3f_o0 a w K Q else K (a.put w3f_o0.dst undef) w := by
  unfold w3f_o0 at hdep hK ⊢
  have hK9 := hK
  obtain ⟨hB, j2⟩ := hJ
  have v8 := (hFr.old 8 (w3f_no (by decide))).trans hx
  have x0 := mc_all (qX.below hB qX.lt)
  rw [if_pos (show Region.wanted _ _ = true from rfl)]
  refine wp_load_mid 41 _ rfl bX 0 v8 (mcA x ur um ud ue).toList _ x0 Tryd.underlying41 rfl (szMc _ _ _ _ _) ?_
  exact hK9.out _ e _ rfl (fun _ _ => rfl) ⟨hB, j2⟩
set_option maxRecDepth 100000 in
set_option maxHeartbeats 2000000 in
theorem w3f_s1 (A : Act) (w1 : World) (Q : Exit → Act → World → Prop) (bX bA : Nat) (x : Mc) (ur um ud ue vr vm vd ve : Value) 
    (hx : A.tmps.getD 8 undef = .pointer (some ⟨bX, 0, none⟩)) (ha : A.tmps.getD 2 undef = .pointer (some ⟨bA, 0, none⟩)) (qX : Blk w1 bX (mcA x ur um ud ue)) (qA : Blk w1 bA (mcA x vr vm vd ve)) (hT : ∀ W, Below w1.heap.size w1 W → Calls Tryd.prog 19 #[.agg (mcA x vr vm vd ve)] W fun r w' => ∃ v, r = .returned v ∧ MacB w' v x ∧ Below W.heap.size W w') (hE : ∀ W v, Below w1.heap.size w1 W → MacB W v x → Calls Tryd.prog 11 #[.agg (mcA x ur um ud ue), v] W fun r w' => r = .returned (.bool true) ∧ Below W.heap.size W w')
    (f : Nat → Bool) (e : Value) (a : Act) (w : World) (hun : f 1 = false) (hdep : ∀ d ∈ w3f_o1.after, Region.binds .any d = true → f d.on = true) (hJ : w3f_J w1 bX bA x ur um ud ue vr vm vd ve f e w) (hFr : Fr w3f_O A f (fun j => w3f_V bX bA x ur um ud ue vr vm vd ve j e) a)
    (K : Act → World → Prop) (hK : Hid (∀ v e' w', v = w3f_V bX bA x ur um ud ue vr vm vd ve 1 e' → (∀ j, f j = true → w3f_V bX bA x ur um ud ue vr vm vd ve j e' = w3f_V bX bA x ur um ud ue vr vm vd ve j e) → w3f_J w1 bX bA x ur um ud ue vr vm vd ve (fun j => j == 1 || f j) e' w' → K (a.put w3f_o1.dst v) w')) :
    if Region.wanted w3f_o1 (yielded w3f_O a.tmps) = true then Oper.wp Tryd.prog w3f_o1 a w K Q else K (a.put w3f_o1.dst undef) w := by
  unfold w3f_o1 at hdep hK ⊢
  have hK9 := hK
  obtain ⟨hB, j2⟩ := hJ
  have v2 := (hFr.old 2 (w3f_no (by decide))).trans ha
  have x0 := mc_all (qA.below hB qA.lt)
  rw [if_pos (show Region.wanted _ _ = true from rfl)]
  refine wp_load_mid 58 _ rfl bA 0 v2 (mcA x vr vm vd ve).toList _ x0 Tryd.underlying58 rfl (szLMc _ _ _ _ _) ?_
  exact hK9.out _ e _ rfl (fun _ _ => rfl) ⟨hB, j2⟩
set_option maxRecDepth 100000 in
set_option maxHeartbeats 2000000 in
theorem w3f_s2 (A : Act) (w1 : World) (Q : Exit → Act → World → Prop) (bX bA : Nat) (x : Mc) (ur um ud ue vr vm vd ve : Value) 
    (hx : A.tmps.getD 8 undef = .pointer (some ⟨bX, 0, none⟩)) (ha : A.tmps.getD 2 undef = .pointer (some ⟨bA, 0, none⟩)) (qX : Blk w1 bX (mcA x ur um ud ue)) (qA : Blk w1 bA (mcA x vr vm vd ve)) (hT : ∀ W, Below w1.heap.size w1 W → Calls Tryd.prog 19 #[.agg (mcA x vr vm vd ve)] W fun r w' => ∃ v, r = .returned v ∧ MacB w' v x ∧ Below W.heap.size W w') (hE : ∀ W v, Below w1.heap.size w1 W → MacB W v x → Calls Tryd.prog 11 #[.agg (mcA x ur um ud ue), v] W fun r w' => r = .returned (.bool true) ∧ Below W.heap.size W w')
    (f : Nat → Bool) (e : Value) (a : Act) (w : World) (hun : f 2 = false) (hdep : ∀ d ∈ w3f_o2.after, Region.binds .any d = true → f d.on = true) (hJ : w3f_J w1 bX bA x ur um ud ue vr vm vd ve f e w) (hFr : Fr w3f_O A f (fun j => w3f_V bX bA x ur um ud ue vr vm vd ve j e) a)
    (K : Act → World → Prop) (hK : Hid (∀ v e' w', v = w3f_V bX bA x ur um ud ue vr vm vd ve 2 e' → (∀ j, f j = true → w3f_V bX bA x ur um ud ue vr vm vd ve j e' = w3f_V bX bA x ur um ud ue vr vm vd ve j e) → w3f_J w1 bX bA x ur um ud ue vr vm vd ve (fun j => j == 2 || f j) e' w' → K (a.put w3f_o2.dst v) w')) :
    if Region.wanted w3f_o2 (yielded w3f_O a.tmps) = true then Oper.wp Tryd.prog w3f_o2 a w K Q else K (a.put w3f_o2.dst undef) w := by
  unfold w3f_o2 at hdep hK ⊢
  have hK9 := hK
  obtain ⟨hB, j2⟩ := hJ
  have k1 : f 1 = true := hdep { on := 1, ground := .data } (by simp) rfl
  have v49 : a.tmps.getD 49 undef = (.agg (mcA x vr vm vd ve)) := hFr.new 1 49 rfl k1
  replace hB := hid hB
  replace j2 := hid j2
  replace hT := hid hT
  replace hE := hid hE
  replace qX := hid qX
  replace qA := hid qA
  clear hdep hFr hx ha
  go_simp
  go_at_call 19
  refine (hT.out w hB.out).mono ?_
  rintro r w' ⟨u, rfl, hm', hb'⟩
  replace hm' := hid hm'
  replace hb' := hid hb'
  go_simp
  exact hK9.out _ u _ rfl (w3f_keep bX bA x ur um ud ue vr vm vd ve e u hun) ⟨new_trans hB.out hb'.out, fun _ => hm'.out⟩
set_option maxRecDepth 100000 in
set_option maxHeartbeats 2000000 in
theorem w3f_s3 (A : Act) (w1 : World) (Q : Exit → Act → World → Prop) (bX bA : Nat) (x : Mc) (ur um ud ue vr vm vd ve : Value) 
    (hx : A.tmps.getD 8 undef = .pointer (some ⟨bX, 0, none⟩)) (ha : A.tmps.getD 2 undef = .pointer (some ⟨bA, 0, none⟩)) (qX : Blk w1 bX (mcA x ur um ud ue)) (qA : Blk w1 bA (mcA x vr vm vd ve)) (hT : ∀ W, Below w1.heap.size w1 W → Calls Tryd.prog 19 #[.agg (mcA x vr vm vd ve)] W fun r w' => ∃ v, r = .returned v ∧ MacB w' v x ∧ Below W.heap.size W w') (hE : ∀ W v, Below w1.heap.size w1 W → MacB W v x → Calls Tryd.prog 11 #[.agg (mcA x ur um ud ue), v] W fun r w' => r = .returned (.bool true) ∧ Below W.heap.size W w')
    (f : Nat → Bool) (e : Value) (a : Act) (w : World) (hun : f 3 = false) (hdep : ∀ d ∈ w3f_o3.after, Region.binds .any d = true → f d.on = true) (hJ : w3f_J w1 bX bA x ur um ud ue vr vm vd ve f e w) (hFr : Fr w3f_O A f (fun j => w3f_V bX bA x ur um ud ue vr vm vd ve j e) a)
    (K : Act → World → Prop) (hK : Hid (∀ v e' w', v = w3f_V bX bA x ur um ud ue vr vm vd ve 3 e' → (∀ j, f j = true → w3f_V bX bA x ur um ud ue vr vm vd ve j e' = w3f_V bX bA x ur um ud ue vr vm vd ve j e) → w3f_J w1 bX bA x ur um ud ue vr vm vd ve (fun j => j == 3 || f j) e' w' → K (a.put w3f_o3.dst v) w')) :
    if Region.wanted w3f_o3 (yielded w3f_O a.tmps) = true then Oper.wp Tryd.prog w3f_o3 a w K Q else K (a.put w3f_o3.dst undef) w := by
  unfold w3f_o3 at hdep hK ⊢
  have hK9 := hK
  obtain ⟨hB, j2⟩ := hJ
  have k0 : f 0 = true := hdep { on := 0, ground := .data } (by simp) rfl
  have v48 : a.tmps.getD 48 undef = (.agg (mcA x ur um ud ue)) := hFr.new 0 48 rfl k0
  have k2 : f 2 = true := hdep { on := 2, ground := .data } (by simp) rfl
  have v50 : a.tmps.getD 50 undef = e := hFr.new 2 50 rfl k2
  have r2 := hid (j2 k2)
  replace hB := hid hB
  replace j2 := hid j2
  replace hT := hid hT
  replace hE := hid hE
  replace qX := hid qX
  replace qA := hid qA
  clear hdep hFr hx ha
  go_simp
  go_at_call 11
  refine (hE.out w _ hB.out r2.out).mono ?_
  rintro r w' ⟨rfl, hb'⟩
  replace hb' := hid hb'
  go_simp
  exact hK9.out _ e _ rfl (fun _ _ => rfl) ⟨new_trans hB.out hb'.out, fun h => (j2.out h).below hb'.out⟩
set_option maxRecDepth 100000 in
set_option maxHeartbeats 2000000 in
theorem w3f_s4 (A : Act) (w1 : World) (Q : Exit → Act → World → Prop) (bX bA : Nat) (x : Mc) (ur um ud ue vr vm vd ve : Value) 
    (hx : A.tmps.getD 8 undef = .pointer (some ⟨bX, 0, none⟩)) (ha : A.tmps.getD 2 undef = .pointer (some ⟨bA, 0, none⟩)) (qX : Blk w1 bX (mcA x ur um ud ue)) (qA : Blk w1 bA (mcA x vr vm vd ve)) (hT : ∀ W, Below w1.heap.size w1 W → Calls Tryd.prog 19 #[.agg (mcA x vr vm vd ve)] W fun r w' => ∃ v, r = .returned v ∧ MacB w' v x ∧ Below W.heap.size W w') (hE : ∀ W v, Below w1.heap.size w1 W → MacB W v x → Calls Tryd.prog 11 #[.agg (mcA x ur um ud ue), v] W fun r w' => r = .returned (.bool true) ∧ Below W.heap.size W w')
    (f : Nat → Bool) (e : Value) (a : Act) (w : World) (hun : f 4 = false) (hdep : ∀ d ∈ w3f_o4.after, Region.binds .any d = true → f d.on = true) (hJ : w3f_J w1 bX bA x ur um ud ue vr vm vd ve f e w) (hFr : Fr w3f_O A f (fun j => w3f_V bX bA x ur um ud ue vr vm vd ve j e) a)
    (K : Act → World → Prop) (hK : Hid (∀ v e' w', v = w3f_V bX bA x ur um ud ue vr vm vd ve 4 e' → (∀ j, f j = true → w3f_V bX bA x ur um ud ue vr vm vd ve j e' = w3f_V bX bA x ur um ud ue vr vm vd ve j e) → w3f_J w1 bX bA x ur um ud ue vr vm vd ve (fun j => j == 4 || f j) e' w' → K (a.put w3f_o4.dst v) w')) :
    if Region.wanted w3f_o4 (yielded w3f_O a.tmps) = true then Oper.wp Tryd.prog w3f_o4 a w K Q else K (a.put w3f_o4.dst undef) w := by
  unfold w3f_o4 at hdep hK ⊢
  have hK9 := hK
  obtain ⟨hB, j2⟩ := hJ
  have k3 : f 3 = true := hdep { on := 3, ground := .data } (by simp) rfl
  have v51 : a.tmps.getD 51 undef = .bool true := hFr.new 3 51 rfl k3
  replace hB := hid hB
  replace j2 := hid j2
  replace hT := hid hT
  replace hE := hid hE
  replace qX := hid qX
  replace qA := hid qA
  clear hdep hFr hx ha
  go_simp
  exact hK9.out _ e _ rfl (fun _ _ => rfl) ⟨hB.out, j2.out⟩
set_option maxRecDepth 100000 in
set_option maxHeartbeats 4000000 in
theorem w3f_reg (A : Act) (w1 : World) (Q : Exit → Act → World → Prop) (bX bA : Nat) (x : Mc) (ur um ud ue vr vm vd ve : Value) 
    (hx : A.tmps.getD 8 undef = .pointer (some ⟨bX, 0, none⟩)) (ha : A.tmps.getD 2 undef = .pointer (some ⟨bA, 0, none⟩)) (qX : Blk w1 bX (mcA x ur um ud ue)) (qA : Blk w1 bA (mcA x vr vm vd ve)) (hT : ∀ W, Below w1.heap.size w1 W → Calls Tryd.prog 19 #[.agg (mcA x vr vm vd ve)] W fun r w' => ∃ v, r = .returned v ∧ MacB w' v x ∧ Below W.heap.size W w') (hE : ∀ W v, Below w1.heap.size w1 W → MacB W v x → Calls Tryd.prog 11 #[.agg (mcA x ur um ud ue), v] W fun r w' => r = .returned (.bool true) ∧ Below W.heap.size W w') (hN : 53 ≤ A.tmps.size)
    (h : ∀ (w : World) (e : Value), Below w1.heap.size w1 w → Q .normal (putsA A [(48, (.agg (mcA x ur um ud ue))), (49, (.agg (mcA x vr vm vd ve))), (50, e), (51, .bool true), (52, .bool false)]) w) :
    (Code.region 14 #[({ dst := some 48, op := Op.load 41 (Operand.tmp 8), type := 41, pos := "exact.go:3143", after := #[], guard := none } : Oper), ({ dst := some 49, op := Op.load 58 (Operand.tmp 2), type := 58, pos := "exact.go:3143", after := #[], guard := none } : Oper), ({ dst := some 50, op := Op.call { callee := Callee.value (Operand.func 19), args := #[Operand.tmp 49], argTypes := #[58] }, type := 41, pos := "exact.go:3143", after := #[{ on := 1, ground := Ground.data }], guard := none } : Oper), ({ dst := some 51, op := Op.call { callee := Callee.value (Operand.func 11), args := #[Operand.tmp 48, Operand.tmp 50], argTypes := #[41, 41] }, type := 4, pos := "exact.go:3143", after := #[{ on := 0, ground := Ground.data }, { on := 2, ground := Ground.data }, { on := 2, ground := Ground.chain }], guard := none } : Oper), ({ dst := some 52, op := Op.unOp UnOp.not 4 (Operand.tmp 51), type := 4, pos := "exact.go:3143", after := #[{ on := 3, ground := Ground.data }], guard := none } : Oper)] true).wp Tryd.prog Q A w1 := by
  show (Code.region 14 w3f_O true).wp Tryd.prog Q A w1
  refine wp_region_slots (E := Value) (w3f_V bX bA x ur um ud ue vr vm vd ve) (w3f_J w1 bX bA x ur um ud ue vr vm vd ve) (by kernel_rfl) (by kernel_rfl) (by kernel_rfl) (fun i s hi => ?_) ?_ undef ⟨(Below.refl _ _).drew, fun h => (by cases h)⟩ ?_
  · cases hc : ([48, 49, 50, 51, 52] : List Nat).contains s
    · exact absurd hi (w3f_no hc i)
    · have : s ∈ ([48, 49, 50, 51, 52] : List Nat) := by simpa using hc
      simp only [List.mem_cons, List.not_mem_nil, or_false] at this
      omega
  · intro f e a w i o hi ho hun hdep hJ hFr K hK
    have hi8 : i < 5 := hi
    rcases (by omega : i = 0 ∨ i = 1 ∨ i = 2 ∨ i = 3 ∨ i = 4) with rfl | rfl | rfl | rfl | rfl
    · obtain rfl := Option.some.inj ho
      exact w3f_s0 A w1 Q bX bA x ur um ud ue vr vm vd ve hx ha qX qA hT hE f e a w hun hdep hJ hFr K hK
    · obtain rfl := Option.some.inj ho
      exact w3f_s1 A w1 Q bX bA x ur um ud ue vr vm vd ve hx ha qX qA hT hE f e a w hun hdep hJ hFr K hK
    · obtain rfl := Option.some.inj ho
      exact w3f_s2 A w1 Q bX bA x ur um ud ue vr vm vd ve hx ha qX qA hT hE f e a w hun hdep hJ hFr K hK
    · obtain rfl := Option.some.inj ho
      exact w3f_s3 A w1 Q bX bA x ur um ud ue vr vm vd ve hx ha qX qA hT hE f e a w hun hdep hJ hFr K hK
    · obtain rfl := Option.some.inj ho
      exact w3f_s4 A w1 Q bX bA x ur um ud ue vr vm vd ve hx ha qX qA hT hE f e a w hun hdep hJ hFr K hK
  · intro f e a w hall hJ hFr
    have := h w e hJ.1
    rw [hFr.eq [(48, (.agg (mcA x ur um ud ue))), (49, (.agg (mcA x vr vm vd ve))), (50, e), (51, .bool true), (52, .bool false)] (fun s hs => ?_) (fun i s hi => ?_)]
    · exact this
    · have hne : ∀ k ∈ ([48, 49, 50, 51, 52] : List Nat), k ≠ s := by
        intro k hk e2
        subst e2
        simp only [List.mem_cons, List.not_mem_nil, or_false] at hk
        rcases hk with rfl | rfl | rfl | rfl | rfl
        · exact hs 0 rfl
        · exact hs 1 rfl
        · exact hs 2 rfl
        · exact hs 3 rfl
        · exact hs 4 rfl
      simp only [lookA]
      simp [hne]
    · have hl : i < 5 := by
        rcases Nat.lt_or_ge i 5 with h1 | h1
        · exact h1
        · unfold dstAt at hi
          rw [Array.getElem?_eq_none (by exact h1)] at hi
          cases hi
      refine ⟨hall i hl, ?_⟩
      rcases (by omega : i = 0 ∨ i = 1 ∨ i = 2 ∨ i = 3 ∨ i = 4) with rfl | rfl | rfl | rfl | rfl
      all_goals first
        | (cases hi; rfl)
        | cases hi
end Go.Proofs.YtifcdojaocndhaaDoor
