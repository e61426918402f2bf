/- A word and words of numbers behind it: what is said of them while they are gathered. -/
import Derived.Test.YtneagomkohoceaaDoorTxbc
import Derived.Test.YtneagomkohoceaaDoorC25
namespace Go.Proofs.YtneagomkohoceaaDoor
open Go.ChangeShapes Go.WideShapes Go.ChangeAt Go.RowKit
set_option linter.unusedVariables false
set_option linter.unusedSimpArgs false

/-- a list of pointers to just these numbers -/
def PlR (w : World) (v : Value) (ns : List Nat) : Prop := ∃ pa pg c, v = .slice pa ns.length c ∧ (0 < ns.length → pa = some ⟨pg, 0, none⟩) ∧ ∀ i, i < ns.length → ∃ b o, w.cell? ⟨pg, i, none⟩ = some (.pointer (some ⟨b, o, none⟩)) ∧ w.cell? ⟨b, o, none⟩ = some (.int .i64 (ns.getD i 0 : Nat)) ∧ ns.getD i 0 < 1000000000
theorem PlR.up {w w' : World} {v : Value} {ns : List Nat} (h : PlR w v ns) (hb : Below w.heap.size w w') : PlR w' v ns := by
  obtain ⟨pa, pg, c, h1, h2, h3⟩ := h
  refine ⟨pa, pg, c, h1, h2, fun i hi => ?_⟩
  obtain ⟨b, o, c1, c2, c3⟩ := h3 i hi
  exact ⟨b, o, cellX_kept hb c1, cellX_kept hb c2, c3⟩
/-- words in a list of their own, in a block above lo -/
def NwR (lo : Nat) (w : World) (v : Value) (ws : List ByteArray) : Prop := ∃ g, v = .slice (some ⟨g, 0, none⟩) ws.length ws.length ∧ lo ≤ g ∧ ∀ i x, ws[i]? = some x → w.cell? ⟨g, i, none⟩ = some (.string x)
theorem NwR.up {lo : Nat} {w w' : World} {v : Value} {ws : List ByteArray} (h : NwR lo w v ws) (hb : Below w.heap.size w w') : NwR lo w' v ws := by
  obtain ⟨g, h1, h2, h3⟩ := h
  exact ⟨g, h1, h2, fun i x hx => cellX_kept hb (h3 i x hx)⟩
theorem run_append_zeroX {P : Program} (w : World) (t ty e : TypeId) (i : TypeInfo) (ht : P.underlying t = some (.slice e)) (hi : P.info? e = some i) (x a : Addr) (n c c' : Nat) (hle : n ≤ c') :
    (Builtin.append_ #[t, t] ty #[.slice (some x) n c', .slice (some a) 0 c]).run P w = .ok (.slice (some x) n c') w := by
  simp [Builtin.append_, run_underlying ht, sizeOf, typeInfo, hi, Builtin.lenOf, Builtin.firstCells, loadCells, loadCellsFrom, storeCells, hle]
theorem wp_append_zeroX {P : Program} (w : World) {o : Oper} {a : Act} {K : Act → World → Prop} {Q : Exit → Act → World → Prop} (s x : Operand) (t : TypeId)
    (ho : o.op = .call { callee := .builtin .append, args := #[s, x], argTypes := #[t, t] }) (e : TypeId) (i : TypeInfo) (ht : P.underlying t = some (.slice e)) (hi : P.info? e = some i)
    (y b : Addr) (n c c' : Nat) (hle : n ≤ c') (hs : a.eval s = .slice (some y) n c') (hx : a.eval x = .slice (some b) 0 c) (h : K (a.put o.dst (.slice (some y) n c')) w) : o.wp P a w K Q := by
  unfold Oper.wp execOp
  simp only [ho, resolve, invoke, builtin, Sem.run_bind, Sem.run_pure, Result.andThen_ok, List.map_toArray, List.map_cons, List.map_nil, hs, hx, run_append_zeroX w t o.type e i ht hi y b n c c' hle]
  exact h
/-- the words that stand in a list of one's own -/
theorem own_cells {W : World} {lo : Nat} {v : Value} {ws : List ByteArray} (h : W.ownsRow lo 9 1 v ws.length (ws.map Value.string)) (hn : 0 < ws.length) : ∃ g c, v = .slice (some ⟨g, 0, none⟩) ws.length c ∧ lo ≤ g ∧ g < W.heap.size ∧ ws.length ≤ c ∧ ∀ (i : Nat) x, ws[i]? = some x → W.cell? ⟨g, i, none⟩ = some (.string x) := by
  obtain ⟨g, c, rfl, h1, h2⟩ := h.form hn
  refine ⟨g, c, rfl, h1, h2, ?_, fun i x hx => ?_⟩
  · rcases h.2 with ⟨h0, _⟩ | ⟨g', cap', cur, hv', _, _, hc, _⟩
    · cases h0
    · injection hv' with _ _ e
      omega
  have hi := (List.getElem?_eq_some_iff.1 hx).1
  rw [h.cellAt i (by omega), List.getElem?_map, hx]
  rfl
end Go.Proofs.YtneagomkohoceaaDoor

/- A word and the words of numbers behind it: the drawn region of impl.InstrText. -/
namespace Go.Proofs.YtneagomkohoceaaDoor
open Go.ChangeShapes Go.WideShapes Go.ChangeAt Go.RowKit
set_option linter.unusedVariables false
set_option linter.unusedSimpArgs false

def ti_V (g4 X : Nat) (wd : ByteArray) (kn ka kb kt : Int) (ns : List Nat) : Nat → Nat × Value × Value × Value → Value := fun i e => match i with
  | 0 => .pointer (some ⟨g4, 0, none⟩)
  | 1 => .string wd
  | 2 => .slice (some ⟨e.1, 0, none⟩) 1 1
  | 3 => .agg (#[.string wd, .int .i64 kn, .int .i64 ka, .int .i64 kb, .int .i64 kt])
  | 4 => e.2.1
  | 5 => e.2.2.1
  | 6 => e.2.2.2
  | 7 => e.2.2.2
  | _ => undef
def ti_J (w1 : World) (g4 X : Nat) (wd : ByteArray) (kn ka kb kt : Int) (ns : List Nat) (f : Nat → Bool) (e : Nat × Value × Value × Value) (w : World) : Prop :=
  Below w1.heap.size w1 w ∧ (f 2 = true → f 6 = false → w.ownsRow w1.heap.size 9 1 (.slice (some ⟨e.1, 0, none⟩) 1 1) 1 [.string wd]) ∧ (f 4 = true → f 5 = false → PlR w e.2.1 ns) ∧ (f 5 = true → f 6 = false → NwR w1.heap.size w e.2.2.1 (ns.map digB)) ∧ (f 6 = true → w.ownsRow w1.heap.size 9 1 e.2.2.2 (1 + ns.length) ((wd :: ns.map digB).map Value.string)) ∧ (f 4 = true → f 3 = true) ∧ (f 5 = true → f 4 = true) ∧ (f 6 = true → f 2 = true ∧ f 5 = true) ∧ (f 7 = true → f 6 = true)
def ti_o0 : Oper := ({ dst := some 13, op := Op.fieldAddr 62 (Operand.tmp 4) 0, type := 0, pos := "l05_code.go:247", after := #[], guard := none } : Oper)
def ti_o1 : Oper := ({ dst := some 14, op := Op.load 9 (Operand.tmp 13), type := 9, pos := "l05_code.go:247", after := #[{ on := 0, ground := Ground.data }], guard := none } : Oper)
def ti_o2 : Oper := ({ dst := some 15, op := Op.buildSlice 37 1 #[(0, Operand.tmp 14)], type := 37, pos := "l05_code.go:247", after := #[{ on := 1, ground := Ground.data }], guard := none } : Oper)
def ti_o3 : Oper := ({ dst := some 16, op := Op.load 62 (Operand.tmp 4), type := 62, pos := "l05_code.go:247", after := #[], guard := none } : Oper)
def ti_o4 : Oper := ({ dst := some 17, op := Op.call { callee := Callee.value (Operand.func 38), args := #[Operand.tmp 16, Operand.tmp 1], argTypes := #[62, 73] }, type := 71, pos := "l05_code.go:247", after := #[{ on := 3, ground := Ground.data }], guard := none } : Oper)
def ti_o5 : Oper := ({ dst := some 18, op := Op.call { callee := Callee.value (Operand.func 37), args := #[Operand.tmp 17], argTypes := #[71] }, type := 37, pos := "l05_code.go:247", after := #[{ on := 4, ground := Ground.data }, { on := 4, ground := Ground.chain }], guard := none } : Oper)
def ti_o6 : Oper := ({ dst := some 19, op := Op.call { callee := Callee.builtin Builtin.append, args := #[Operand.tmp 15, Operand.tmp 18], argTypes := #[37, 37] }, type := 37, pos := "l05_code.go:247", after := #[{ on := 2, ground := Ground.data }, { on := 5, ground := Ground.data }, { on := 5, ground := Ground.chain }], guard := none } : Oper)
def ti_o7 : Oper := ({ dst := some 5, op := Op.assign (Operand.tmp 19), type := 37, pos := "l05_code.go:247", after := #[{ on := 6, ground := Ground.data }, { on := 6, ground := Ground.chain }, { on := 0, ground := Ground.phase }, { on := 1, ground := Ground.phase }, { on := 2, ground := Ground.phase }, { on := 3, ground := Ground.phase }, { on := 4, ground := Ground.phase }, { on := 5, ground := Ground.phase }, { on := 6, ground := Ground.phase }], guard := none } : Oper)
def ti_O : Array Oper := #[ti_o0, ti_o1, ti_o2, ti_o3, ti_o4, ti_o5, ti_o6, ti_o7]
theorem ti_no {s : Nat} (h : ([13, 14, 15, 16, 17, 18, 19, 5] : List Nat).contains s = false) : ∀ i, dstAt ti_O i ≠ some s := by
  intro i hi
  have hl : i < 8 := by
    rcases Nat.lt_or_ge i 8 with h1 | h1
    · exact h1
    · unfold dstAt at hi
      rw [Array.getElem?_eq_none (by exact h1)] at hi
      cases hi
  rcases (by omega : i = 0 ∨ i = 1 ∨ i = 2 ∨ i = 3 ∨ i = 4 ∨ i = 5 ∨ i = 6 ∨ i = 7) with rfl | rfl | rfl | rfl | rfl | rfl | rfl | rfl
  all_goals first
    | (cases hi; simp at h)
    | cases hi
theorem ti_k2 (g4 X : Nat) (wd : ByteArray) (kn ka kb kt : Int) (ns : List Nat) {f : Nat → Bool} (e : Nat × Value × Value × Value) (x : Nat) (hn : f 2 = false) : ∀ j, f j = true → ti_V g4 X wd kn ka kb kt ns j (x, e.2) = ti_V g4 X wd kn ka kb kt ns j e := by
  intro j hj
  unfold ti_V
  split
  · rfl
  · rfl
  · rw [hn] at hj; cases hj
  · rfl
  · rfl
  · rfl
  · rfl
  · rfl
  · rfl
theorem ti_k4 (g4 X : Nat) (wd : ByteArray) (kn ka kb kt : Int) (ns : List Nat) {f : Nat → Bool} (e : Nat × Value × Value × Value) (x : Value) (hn : f 4 = false) : ∀ j, f j = true → ti_V g4 X wd kn ka kb kt ns j (e.1, x, e.2.2) = ti_V g4 X wd kn ka kb kt ns j e := by
  intro j hj
  unfold ti_V
  split
  · rfl
  · rfl
  · rfl
  · rfl
  · rw [hn] at hj; cases hj
  · rfl
  · rfl
  · rfl
  · rfl
theorem ti_k5 (g4 X : Nat) (wd : ByteArray) (kn ka kb kt : Int) (ns : List Nat) {f : Nat → Bool} (e : Nat × Value × Value × Value) (x : Value) (hn : f 5 = false) : ∀ j, f j = true → ti_V g4 X wd kn ka kb kt ns j (e.1, e.2.1, x, e.2.2.2) = ti_V g4 X wd kn ka kb kt ns j e := by
  intro j hj
  unfold ti_V
  split
  · rfl
  · rfl
  · rfl
  · rfl
  · rfl
  · rw [hn] at hj; cases hj
  · rfl
  · rfl
  · rfl
theorem ti_k6 (g4 X : Nat) (wd : ByteArray) (kn ka kb kt : Int) (ns : List Nat) {f : Nat → Bool} (e : Nat × Value × Value × Value) (x : Value) (hn : f 6 = false) (hn2 : f 7 = false) : ∀ j, f j = true → ti_V g4 X wd kn ka kb kt ns j (e.1, e.2.1, e.2.2.1, x) = ti_V g4 X wd kn ka kb kt ns j e := by
  intro j hj
  unfold ti_V
  split
  · rfl
  · rfl
  · rfl
  · rfl
  · rfl
  · rfl
  · rw [hn] at hj; cases hj
  · rw [hn2] at hj; cases hj
  · rfl
set_option maxRecDepth 100000 in
set_option maxHeartbeats 2000000 in
theorem ti_s0 (A : Act) (w1 : World) (Q : Exit → Act → World → Prop) (g4 X : Nat) (wd : ByteArray) (kn ka kb kt : Int) (ns : List Nat) 
    (h4 : A.tmps.getD 4 undef = .pointer (some ⟨g4, 0, none⟩)) (h1 : A.tmps.getD 1 undef = .pointer (some ⟨X, 0, none⟩)) (q4 : Blk w1 g4 (#[.string wd, .int .i64 kn, .int .i64 ka, .int .i64 kb, .int .i64 kt])) (hT : PowT w1) (hn : ns.length ≤ 100)
    (hP : Hid (∀ W, Below w1.heap.size w1 W → Calls Tryd.prog 38 #[.agg (#[.string wd, .int .i64 kn, .int .i64 ka, .int .i64 kb, .int .i64 kt]), .pointer (some ⟨X, 0, none⟩)] W fun r w' => ∃ v, r = .returned v ∧ PlR w' v ns ∧ Below W.heap.size W w'))
    (f : Nat → Bool) (e : Nat × Value × Value × Value) (a : Act) (w : World) (hun : f 0 = false) (hdep : ∀ d ∈ ti_o0.after, Region.binds .any d = true → f d.on = true) (hJ : ti_J w1 g4 X wd kn ka kb kt ns f e w) (hFr : Fr ti_O A f (fun j => ti_V g4 X wd kn ka kb kt ns j e) a)
    (K : Act → World → Prop) (hK : Hid (∀ v e' w', v = ti_V g4 X wd kn ka kb kt ns 0 e' → (∀ j, f j = true → ti_V g4 X wd kn ka kb kt ns j e' = ti_V g4 X wd kn ka kb kt ns j e) → ti_J w1 g4 X wd kn ka kb kt ns (fun j => j == 0 || f j) e' w' → K (a.put ti_o0.dst v) w')) :
    if Region.wanted ti_o0 (yielded ti_O a.tmps) = true then Oper.wp Tryd.prog ti_o0 a w K Q else K (a.put ti_o0.dst undef) w := by
  unfold ti_o0 at hdep hK ⊢
  obtain ⟨hg, r2, r4, r5, r6, c4, c5, c6, c7⟩ := hJ
  have v4 := (hFr.old 4 (ti_no (by decide))).trans h4
  replace hg := hid hg
  replace r2 := hid r2
  replace r4 := hid r4
  replace r5 := hid r5
  replace r6 := hid r6
  replace c4 := hid c4
  replace c5 := hid c5
  replace c6 := hid c6
  replace c7 := hid c7
  clear hdep hFr h1 h4
  go_simp
  exact hK.out _ e _ rfl (fun _ _ => rfl) ⟨hg.out, r2.out, r4.out, r5.out, r6.out, c4.out, c5.out, c6.out, c7.out⟩
set_option maxRecDepth 100000 in
set_option maxHeartbeats 2000000 in
theorem ti_s1 (A : Act) (w1 : World) (Q : Exit → Act → World → Prop) (g4 X : Nat) (wd : ByteArray) (kn ka kb kt : Int) (ns : List Nat) 
    (h4 : A.tmps.getD 4 undef = .pointer (some ⟨g4, 0, none⟩)) (h1 : A.tmps.getD 1 undef = .pointer (some ⟨X, 0, none⟩)) (q4 : Blk w1 g4 (#[.string wd, .int .i64 kn, .int .i64 ka, .int .i64 kb, .int .i64 kt])) (hT : PowT w1) (hn : ns.length ≤ 100)
    (hP : Hid (∀ W, Below w1.heap.size w1 W → Calls Tryd.prog 38 #[.agg (#[.string wd, .int .i64 kn, .int .i64 ka, .int .i64 kb, .int .i64 kt]), .pointer (some ⟨X, 0, none⟩)] W fun r w' => ∃ v, r = .returned v ∧ PlR w' v ns ∧ Below W.heap.size W w'))
    (f : Nat → Bool) (e : Nat × Value × Value × Value) (a : Act) (w : World) (hun : f 1 = false) (hdep : ∀ d ∈ ti_o1.after, Region.binds .any d = true → f d.on = true) (hJ : ti_J w1 g4 X wd kn ka kb kt ns f e w) (hFr : Fr ti_O A f (fun j => ti_V g4 X wd kn ka kb kt ns j e) a)
    (K : Act → World → Prop) (hK : Hid (∀ v e' w', v = ti_V g4 X wd kn ka kb kt ns 1 e' → (∀ j, f j = true → ti_V g4 X wd kn ka kb kt ns j e' = ti_V g4 X wd kn ka kb kt ns j e) → ti_J w1 g4 X wd kn ka kb kt ns (fun j => j == 1 || f j) e' w' → K (a.put ti_o1.dst v) w')) :
    if Region.wanted ti_o1 (yielded ti_O a.tmps) = true then Oper.wp Tryd.prog ti_o1 a w K Q else K (a.put ti_o1.dst undef) w := by
  unfold ti_o1 at hdep hK ⊢
  obtain ⟨hg, r2, r4, r5, r6, c4, c5, c6, c7⟩ := hJ
  have k0 : f 0 = true := hdep { on := 0, ground := .data } (by simp) rfl
  have v13 : a.tmps.getD 13 undef = .pointer (some ⟨g4, 0, none⟩) := hFr.new 0 13 rfl k0
  have y := (q4.below hg q4.lt).cell 0
  replace hg := hid hg
  replace r2 := hid r2
  replace r4 := hid r4
  replace r5 := hid r5
  replace r6 := hid r6
  replace c4 := hid c4
  replace c5 := hid c5
  replace c6 := hid c6
  replace c7 := hid c7
  clear hdep hFr h1 h4
  go_simp
  exact hK.out _ e _ rfl (fun _ _ => rfl) ⟨hg.out, r2.out, r4.out, r5.out, r6.out, c4.out, c5.out, c6.out, c7.out⟩
set_option maxRecDepth 100000 in
set_option maxHeartbeats 2000000 in
theorem ti_s2 (A : Act) (w1 : World) (Q : Exit → Act → World → Prop) (g4 X : Nat) (wd : ByteArray) (kn ka kb kt : Int) (ns : List Nat) 
    (h4 : A.tmps.getD 4 undef = .pointer (some ⟨g4, 0, none⟩)) (h1 : A.tmps.getD 1 undef = .pointer (some ⟨X, 0, none⟩)) (q4 : Blk w1 g4 (#[.string wd, .int .i64 kn, .int .i64 ka, .int .i64 kb, .int .i64 kt])) (hT : PowT w1) (hn : ns.length ≤ 100)
    (hP : Hid (∀ W, Below w1.heap.size w1 W → Calls Tryd.prog 38 #[.agg (#[.string wd, .int .i64 kn, .int .i64 ka, .int .i64 kb, .int .i64 kt]), .pointer (some ⟨X, 0, none⟩)] W fun r w' => ∃ v, r = .returned v ∧ PlR w' v ns ∧ Below W.heap.size W w'))
    (f : Nat → Bool) (e : Nat × Value × Value × Value) (a : Act) (w : World) (hun : f 2 = false) (hdep : ∀ d ∈ ti_o2.after, Region.binds .any d = true → f d.on = true) (hJ : ti_J w1 g4 X wd kn ka kb kt ns f e w) (hFr : Fr ti_O A f (fun j => ti_V g4 X wd kn ka kb kt ns j e) a)
    (K : Act → World → Prop) (hK : Hid (∀ v e' w', v = ti_V g4 X wd kn ka kb kt ns 2 e' → (∀ j, f j = true → ti_V g4 X wd kn ka kb kt ns j e' = ti_V g4 X wd kn ka kb kt ns j e) → ti_J w1 g4 X wd kn ka kb kt ns (fun j => j == 2 || f j) e' w' → K (a.put ti_o2.dst v) w')) :
    if Region.wanted ti_o2 (yielded ti_O a.tmps) = true then Oper.wp Tryd.prog ti_o2 a w K Q else K (a.put ti_o2.dst undef) w := by
  unfold ti_o2 at hdep hK ⊢
  obtain ⟨hg, r2, r4, r5, r6, c4, c5, c6, c7⟩ := hJ
  have k1 : f 1 = true := hdep { on := 1, ground := .data } (by simp) rfl
  have v14 : a.tmps.getD 14 undef = .string wd := hFr.new 1 14 rfl k1
  have v14b : a.tmps[14]?.getD undef = .string wd := by simpa using v14
  have n6 : f 6 = false := by
    cases hx : f 6
    · rfl
    · have := (c6 hx).1
      rw [hun] at this
      cases this
  have n7 : f 7 = false := by
    cases hx : f 7
    · rfl
    · have := (c6 (c7 hx)).1
      rw [hun] at this
      cases this
  have hal := hid ((Below.refl w.heap.size w).alloc (Nat.le_refl _) (.cells #[.string wd] 9))
  have hO : Hid ((w.alloc (.cells #[.string wd] 9)).ownsRow w1.heap.size 9 1 (.slice (some ⟨w.heap.size, 0, none⟩) 1 1) 1 [.string wd]) := World.ownsRow_lit (base := w1.heap.size) (size := 1) (e := 9) w #[.string wd] 1 hg.size (by decide) rfl
  replace hg := hid hg
  replace r2 := hid r2
  replace r4 := hid r4
  replace r5 := hid r5
  replace r6 := hid r6
  replace c4 := hid c4
  replace c5 := hid c5
  replace c6 := hid c6
  replace c7 := hid c7
  clear hdep hFr h1 h4
  replace n6 := hid n6
  go_simp
  exact hK.out _ (w.heap.size, e.2) _ rfl (ti_k2 g4 X wd kn ka kb kt ns e w.heap.size hun) ⟨new_trans hg.out hal.out, fun _ _ => hO.out, fun h h2 => (r4.out h h2).up hal.out, fun h h2 => (r5.out h h2).up hal.out, fun h => (by have h6 : f 6 = true := h; rw [n6.out] at h6; cases h6), c4.out, c5.out, fun h => (by have h6 : f 6 = true := h; rw [n6.out] at h6; cases h6), c7.out⟩
set_option maxRecDepth 100000 in
set_option maxHeartbeats 2000000 in
theorem ti_s3 (A : Act) (w1 : World) (Q : Exit → Act → World → Prop) (g4 X : Nat) (wd : ByteArray) (kn ka kb kt : Int) (ns : List Nat) 
    (h4 : A.tmps.getD 4 undef = .pointer (some ⟨g4, 0, none⟩)) (h1 : A.tmps.getD 1 undef = .pointer (some ⟨X, 0, none⟩)) (q4 : Blk w1 g4 (#[.string wd, .int .i64 kn, .int .i64 ka, .int .i64 kb, .int .i64 kt])) (hT : PowT w1) (hn : ns.length ≤ 100)
    (hP : Hid (∀ W, Below w1.heap.size w1 W → Calls Tryd.prog 38 #[.agg (#[.string wd, .int .i64 kn, .int .i64 ka, .int .i64 kb, .int .i64 kt]), .pointer (some ⟨X, 0, none⟩)] W fun r w' => ∃ v, r = .returned v ∧ PlR w' v ns ∧ Below W.heap.size W w'))
    (f : Nat → Bool) (e : Nat × Value × Value × Value) (a : Act) (w : World) (hun : f 3 = false) (hdep : ∀ d ∈ ti_o3.after, Region.binds .any d = true → f d.on = true) (hJ : ti_J w1 g4 X wd kn ka kb kt ns f e w) (hFr : Fr ti_O A f (fun j => ti_V g4 X wd kn ka kb kt ns j e) a)
    (K : Act → World → Prop) (hK : Hid (∀ v e' w', v = ti_V g4 X wd kn ka kb kt ns 3 e' → (∀ j, f j = true → ti_V g4 X wd kn ka kb kt ns j e' = ti_V g4 X wd kn ka kb kt ns j e) → ti_J w1 g4 X wd kn ka kb kt ns (fun j => j == 3 || f j) e' w' → K (a.put ti_o3.dst v) w')) :
    if Region.wanted ti_o3 (yielded ti_O a.tmps) = true then Oper.wp Tryd.prog ti_o3 a w K Q else K (a.put ti_o3.dst undef) w := by
  unfold ti_o3 at hdep hK ⊢
  obtain ⟨hg, r2, r4, r5, r6, c4, c5, c6, c7⟩ := hJ
  have v4 := (hFr.old 4 (ti_no (by decide))).trans h4
  have y := (q4.below hg q4.lt).cell
  have n4 : f 4 = false := by
    cases hx : f 4
    · rfl
    · have := c4 hx
      rw [hun] at this
      cases this
  replace hg := hid hg
  replace r2 := hid r2
  replace r4 := hid r4
  replace r5 := hid r5
  replace r6 := hid r6
  replace c4 := hid c4
  replace c5 := hid c5
  replace c6 := hid c6
  replace c7 := hid c7
  clear hdep hFr h1 h4
  replace n4 := hid n4
  go_simp
  exact hK.out _ e _ rfl (fun _ _ => rfl) ⟨hg.out, r2.out, r4.out, r5.out, r6.out, fun h => rfl, c5.out, c6.out, c7.out⟩
set_option maxRecDepth 100000 in
set_option maxHeartbeats 2000000 in
theorem ti_s4 (A : Act) (w1 : World) (Q : Exit → Act → World → Prop) (g4 X : Nat) (wd : ByteArray) (kn ka kb kt : Int) (ns : List Nat) 
    (h4 : A.tmps.getD 4 undef = .pointer (some ⟨g4, 0, none⟩)) (h1 : A.tmps.getD 1 undef = .pointer (some ⟨X, 0, none⟩)) (q4 : Blk w1 g4 (#[.string wd, .int .i64 kn, .int .i64 ka, .int .i64 kb, .int .i64 kt])) (hT : PowT w1) (hn : ns.length ≤ 100)
    (hP : Hid (∀ W, Below w1.heap.size w1 W → Calls Tryd.prog 38 #[.agg (#[.string wd, .int .i64 kn, .int .i64 ka, .int .i64 kb, .int .i64 kt]), .pointer (some ⟨X, 0, none⟩)] W fun r w' => ∃ v, r = .returned v ∧ PlR w' v ns ∧ Below W.heap.size W w'))
    (f : Nat → Bool) (e : Nat × Value × Value × Value) (a : Act) (w : World) (hun : f 4 = false) (hdep : ∀ d ∈ ti_o4.after, Region.binds .any d = true → f d.on = true) (hJ : ti_J w1 g4 X wd kn ka kb kt ns f e w) (hFr : Fr ti_O A f (fun j => ti_V g4 X wd kn ka kb kt ns j e) a)
    (K : Act → World → Prop) (hK : Hid (∀ v e' w', v = ti_V g4 X wd kn ka kb kt ns 4 e' → (∀ j, f j = true → ti_V g4 X wd kn ka kb kt ns j e' = ti_V g4 X wd kn ka kb kt ns j e) → ti_J w1 g4 X wd kn ka kb kt ns (fun j => j == 4 || f j) e' w' → K (a.put ti_o4.dst v) w')) :
    if Region.wanted ti_o4 (yielded ti_O a.tmps) = true then Oper.wp Tryd.prog ti_o4 a w K Q else K (a.put ti_o4.dst undef) w := by
  unfold ti_o4 at hdep hK ⊢
  obtain ⟨hg, r2, r4, r5, r6, c4, c5, c6, c7⟩ := hJ
  have k3 : f 3 = true := hdep { on := 3, ground := .data } (by simp) rfl
  have v16 : a.tmps.getD 16 undef = .agg (#[.string wd, .int .i64 kn, .int .i64 ka, .int .i64 kb, .int .i64 kt]) := hFr.new 3 16 rfl k3
  have v1 := (hFr.old 1 (ti_no (by decide))).trans h1
  have n5 : f 5 = false := by
    cases hx : f 5
    · rfl
    · have := c5 hx
      rw [hun] at this
      cases this
  have n6 : f 6 = false := by
    cases hx : f 6
    · rfl
    · have := c5 (c6 hx).2
      rw [hun] at this
      cases this
  have n7 : f 7 = false := by
    cases hx : f 7
    · rfl
    · have := c5 (c6 (c7 hx)).2
      rw [hun] at this
      cases this
  replace hg := hid hg
  replace r2 := hid r2
  replace r4 := hid r4
  replace r5 := hid r5
  replace r6 := hid r6
  replace c4 := hid c4
  replace c5 := hid c5
  replace c6 := hid c6
  replace c7 := hid c7
  clear hdep hFr h1 h4
  replace n5 := hid n5
  replace n6 := hid n6
  go_simp
  go_at_call 38
  refine (hP.out w hg.out).mono ?_
  rintro r w' ⟨v, rfl, hpl, hb'⟩
  have hb2 := hid hb'
  have hpl2 := hid hpl
  clear hb' hpl
  go_simp
  exact hK.out _ (e.1, v, e.2.2) _ rfl (ti_k4 g4 X wd kn ka kb kt ns e v hun) ⟨new_trans hg.out hb2.out, fun h h6 => ownX_below (r2.out h h6) hb2.out, fun _ _ => hpl2.out, fun h h2 => (r5.out h h2).up hb2.out, fun h => (by have h6 : f 6 = true := h; rw [n6.out] at h6; cases h6), fun _ => k3, fun _ => rfl, c6.out, c7.out⟩
set_option maxRecDepth 100000 in
set_option maxHeartbeats 2000000 in
theorem ti_s5 (A : Act) (w1 : World) (Q : Exit → Act → World → Prop) (g4 X : Nat) (wd : ByteArray) (kn ka kb kt : Int) (ns : List Nat) 
    (h4 : A.tmps.getD 4 undef = .pointer (some ⟨g4, 0, none⟩)) (h1 : A.tmps.getD 1 undef = .pointer (some ⟨X, 0, none⟩)) (q4 : Blk w1 g4 (#[.string wd, .int .i64 kn, .int .i64 ka, .int .i64 kb, .int .i64 kt])) (hT : PowT w1) (hn : ns.length ≤ 100)
    (hP : Hid (∀ W, Below w1.heap.size w1 W → Calls Tryd.prog 38 #[.agg (#[.string wd, .int .i64 kn, .int .i64 ka, .int .i64 kb, .int .i64 kt]), .pointer (some ⟨X, 0, none⟩)] W fun r w' => ∃ v, r = .returned v ∧ PlR w' v ns ∧ Below W.heap.size W w'))
    (f : Nat → Bool) (e : Nat × Value × Value × Value) (a : Act) (w : World) (hun : f 5 = false) (hdep : ∀ d ∈ ti_o5.after, Region.binds .any d = true → f d.on = true) (hJ : ti_J w1 g4 X wd kn ka kb kt ns f e w) (hFr : Fr ti_O A f (fun j => ti_V g4 X wd kn ka kb kt ns j e) a)
    (K : Act → World → Prop) (hK : Hid (∀ v e' w', v = ti_V g4 X wd kn ka kb kt ns 5 e' → (∀ j, f j = true → ti_V g4 X wd kn ka kb kt ns j e' = ti_V g4 X wd kn ka kb kt ns j e) → ti_J w1 g4 X wd kn ka kb kt ns (fun j => j == 5 || f j) e' w' → K (a.put ti_o5.dst v) w')) :
    if Region.wanted ti_o5 (yielded ti_O a.tmps) = true then Oper.wp Tryd.prog ti_o5 a w K Q else K (a.put ti_o5.dst undef) w := by
  unfold ti_o5 at hdep hK ⊢
  obtain ⟨hg, r2, r4, r5, r6, c4, c5, c6, c7⟩ := hJ
  have k4 : f 4 = true := hdep { on := 4, ground := .data } (by simp) rfl
  obtain ⟨pa, pg, pc, hv, hpa, hpc⟩ := r4 k4 hun
  have v17 : a.tmps.getD 17 undef = e.2.1 := hFr.new 4 17 rfl k4
  rw [hv] at v17
  have n6 : f 6 = false := by
    cases hx : f 6
    · rfl
    · have := (c6 hx).2
      rw [hun] at this
      cases this
  have n7 : f 7 = false := by
    cases hx : f 7
    · rfl
    · have := (c6 (c7 hx)).2
      rw [hun] at this
      cases this
  have hTw := hid (hT.up hg)
  replace hg := hid hg
  replace r2 := hid r2
  replace r4 := hid r4
  replace r5 := hid r5
  replace r6 := hid r6
  replace c4 := hid c4
  replace c5 := hid c5
  replace c6 := hid c6
  replace c7 := hid c7
  clear hdep hFr h1 h4
  replace n6 := hid n6
  replace hpa := hid hpa
  replace hpc := hid hpc
  go_simp
  go_at_call 37
  refine (numw_impl pa pg pc ns w hTw.out hpa.out hn hpc.out).mono ?_
  rintro r w' ⟨rfl, ho, hb'⟩
  have hb2 := hid hb'
  have ho2 := hid ho
  clear hb' ho
  have hnw : Hid (NwR w1.heap.size w' (.slice (some ⟨w.heap.size, 0, none⟩) ns.length ns.length) (ns.map digB)) := ⟨w.heap.size, by rw [List.length_map], hg.out.size, fun i x hx => by
    have hi := (List.getElem?_eq_some_iff.1 hx).1
    rw [List.length_map] at hi
    rw [ho2.out.cellAt i (by omega), List.getElem?_map, hx]
    rfl⟩
  go_simp
  exact hK.out _ (e.1, e.2.1, .slice (some ⟨w.heap.size, 0, none⟩) ns.length ns.length, e.2.2.2) _ rfl (ti_k5 g4 X wd kn ka kb kt ns e _ hun) ⟨new_trans hg.out hb2.out, fun h h6 => ownX_below (r2.out h h6) hb2.out, fun _ h => (by cases h), fun _ _ => hnw.out, fun h => (by have h6 : f 6 = true := h; rw [n6.out] at h6; cases h6), c4.out, fun _ => k4, fun h => (by have h6 : f 6 = true := h; rw [n6.out] at h6; cases h6), c7.out⟩
set_option maxRecDepth 100000 in
set_option maxHeartbeats 2000000 in
theorem ti_s6 (A : Act) (w1 : World) (Q : Exit → Act → World → Prop) (g4 X : Nat) (wd : ByteArray) (kn ka kb kt : Int) (ns : List Nat) 
    (h4 : A.tmps.getD 4 undef = .pointer (some ⟨g4, 0, none⟩)) (h1 : A.tmps.getD 1 undef = .pointer (some ⟨X, 0, none⟩)) (q4 : Blk w1 g4 (#[.string wd, .int .i64 kn, .int .i64 ka, .int .i64 kb, .int .i64 kt])) (hT : PowT w1) (hn : ns.length ≤ 100)
    (hP : Hid (∀ W, Below w1.heap.size w1 W → Calls Tryd.prog 38 #[.agg (#[.string wd, .int .i64 kn, .int .i64 ka, .int .i64 kb, .int .i64 kt]), .pointer (some ⟨X, 0, none⟩)] W fun r w' => ∃ v, r = .returned v ∧ PlR w' v ns ∧ Below W.heap.size W w'))
    (f : Nat → Bool) (e : Nat × Value × Value × Value) (a : Act) (w : World) (hun : f 6 = false) (hdep : ∀ d ∈ ti_o6.after, Region.binds .any d = true → f d.on = true) (hJ : ti_J w1 g4 X wd kn ka kb kt ns f e w) (hFr : Fr ti_O A f (fun j => ti_V g4 X wd kn ka kb kt ns j e) a)
    (K : Act → World → Prop) (hK : Hid (∀ v e' w', v = ti_V g4 X wd kn ka kb kt ns 6 e' → (∀ j, f j = true → ti_V g4 X wd kn ka kb kt ns j e' = ti_V g4 X wd kn ka kb kt ns j e) → ti_J w1 g4 X wd kn ka kb kt ns (fun j => j == 6 || f j) e' w' → K (a.put ti_o6.dst v) w')) :
    if Region.wanted ti_o6 (yielded ti_O a.tmps) = true then Oper.wp Tryd.prog ti_o6 a w K Q else K (a.put ti_o6.dst undef) w := by
  unfold ti_o6 at hdep hK ⊢
  obtain ⟨hg, r2, r4, r5, r6, c4, c5, c6, c7⟩ := hJ
  have k2 : f 2 = true := hdep { on := 2, ground := .data } (by simp) rfl
  have k5 : f 5 = true := hdep { on := 5, ground := .data } (by simp) rfl
  have hO := r2 k2 hun
  have v15 : a.tmps.getD 15 undef = .slice (some ⟨e.1, 0, none⟩) 1 1 := hFr.new 2 15 rfl k2
  obtain ⟨g, hv, hlo, hcs⟩ := r5 k5 hun
  have v18 : a.tmps.getD 18 undef = e.2.2.1 := hFr.new 5 18 rfl k5
  rw [hv] at v18
  rw [List.length_map] at v18
  have n7 : f 7 = false := by
    cases hx : f 7
    · rfl
    · have := c7 hx
      rw [hun] at this
      cases this
  obtain ⟨i0, hi0, hz0, hz1, hz2⟩ := info_parts infoStr
  have hsz := hg.size
  rw [if_pos (show Region.wanted _ _ = true from rfl)]
  by_cases hn0 : ns = []
  · subst hn0
    refine wp_append_zeroX w _ _ 37 rfl 9 i0 Tryd.underlying37 hi0 ⟨e.1, 0, none⟩ ⟨g, 0, none⟩ 1 0 1 (Nat.le_refl _) v15 v18 ?_
    exact hK.out _ (e.1, e.2.1, e.2.2.1, .slice (some ⟨e.1, 0, none⟩) 1 1) _ rfl (ti_k6 g4 X wd kn ka kb kt [] e _ hun n7) ⟨hg, fun _ h => (by cases h), fun _ h => (by have h5 : f 5 = false := h; rw [k5] at h5; cases h5), fun _ h => (by cases h), fun _ => hO, c4, c5, fun _ => ⟨k2, k5⟩, fun _ => rfl⟩
  · have hpos : 0 < ns.length := List.length_pos_iff.2 hn0
    refine wp_append_lies w _ _ 37 rfl w1.heap.size 9 i0 _ 1 16 Tryd.underlying37 hi0 hz0 hz1 hz2 rfl (by omega) _ 1 [.string wd] v15 hO ⟨g, 0, none⟩ ns.length ns.length ((ns.map digB).map Value.string) v18 (by simp) (fun j u hu => ?_) (by intro u hu; obtain ⟨x, _, rfl⟩ := List.mem_map.1 hu; rfl) hpos (by unfold maxLen; omega) (by omega) (by omega) _ rfl ?_
    · rw [List.getElem?_map] at hu
      cases hx : (ns.map digB)[j]? with
      | none => rw [hx] at hu; cases hu
      | some x =>
        rw [hx] at hu
        obtain rfl := Option.some.inj hu
        have := hcs j x hx
        cases j with
        | zero => exact this
        | succ j => simpa [Addr.add] using this
    intro gg cap2 w2 ho hgr hat hlt
    have hb2 : Below w1.heap.size w1 w2 := hg.grown hgr hsz (fun k hk => by (have h9 : e.1 = k := by simpa [Value.ownBlock] using hk); (have h10 := (hO.lt e.1 rfl).1); omega)
    exact hK.out _ (e.1, e.2.1, e.2.2.1, .slice (some ⟨gg, 0, none⟩) (1 + ns.length) cap2) _ rfl (ti_k6 g4 X wd kn ka kb kt ns e _ hun n7) ⟨hb2, fun _ h => (by cases h), fun _ h => (by have h5 : f 5 = false := h; rw [k5] at h5; cases h5), fun _ h => (by cases h), fun _ => ho, c4, c5, fun _ => ⟨k2, k5⟩, fun _ => rfl⟩
set_option maxRecDepth 100000 in
set_option maxHeartbeats 2000000 in
theorem ti_s7 (A : Act) (w1 : World) (Q : Exit → Act → World → Prop) (g4 X : Nat) (wd : ByteArray) (kn ka kb kt : Int) (ns : List Nat) 
    (h4 : A.tmps.getD 4 undef = .pointer (some ⟨g4, 0, none⟩)) (h1 : A.tmps.getD 1 undef = .pointer (some ⟨X, 0, none⟩)) (q4 : Blk w1 g4 (#[.string wd, .int .i64 kn, .int .i64 ka, .int .i64 kb, .int .i64 kt])) (hT : PowT w1) (hn : ns.length ≤ 100)
    (hP : Hid (∀ W, Below w1.heap.size w1 W → Calls Tryd.prog 38 #[.agg (#[.string wd, .int .i64 kn, .int .i64 ka, .int .i64 kb, .int .i64 kt]), .pointer (some ⟨X, 0, none⟩)] W fun r w' => ∃ v, r = .returned v ∧ PlR w' v ns ∧ Below W.heap.size W w'))
    (f : Nat → Bool) (e : Nat × Value × Value × Value) (a : Act) (w : World) (hun : f 7 = false) (hdep : ∀ d ∈ ti_o7.after, Region.binds .any d = true → f d.on = true) (hJ : ti_J w1 g4 X wd kn ka kb kt ns f e w) (hFr : Fr ti_O A f (fun j => ti_V g4 X wd kn ka kb kt ns j e) a)
    (K : Act → World → Prop) (hK : Hid (∀ v e' w', v = ti_V g4 X wd kn ka kb kt ns 7 e' → (∀ j, f j = true → ti_V g4 X wd kn ka kb kt ns j e' = ti_V g4 X wd kn ka kb kt ns j e) → ti_J w1 g4 X wd kn ka kb kt ns (fun j => j == 7 || f j) e' w' → K (a.put ti_o7.dst v) w')) :
    if Region.wanted ti_o7 (yielded ti_O a.tmps) = true then Oper.wp Tryd.prog ti_o7 a w K Q else K (a.put ti_o7.dst undef) w := by
  unfold ti_o7 at hdep hK ⊢
  obtain ⟨hg, r2, r4, r5, r6, c4, c5, c6, c7⟩ := hJ
  have k6 : f 6 = true := hdep { on := 6, ground := .data } (by simp) rfl
  have v19 : a.tmps.getD 19 undef = e.2.2.2 := hFr.new 6 19 rfl k6
  replace hg := hid hg
  replace r2 := hid r2
  replace r4 := hid r4
  replace r5 := hid r5
  replace r6 := hid r6
  replace c4 := hid c4
  replace c5 := hid c5
  replace c6 := hid c6
  replace c7 := hid c7
  clear hdep hFr h1 h4
  go_simp
  exact hK.out _ e _ rfl (fun _ _ => rfl) ⟨hg.out, r2.out, r4.out, r5.out, r6.out, c4.out, c5.out, c6.out, fun _ => k6⟩
set_option maxRecDepth 100000 in
set_option maxHeartbeats 4000000 in
theorem ti_reg (A : Act) (w1 : World) (Q : Exit → Act → World → Prop) (g4 X : Nat) (wd : ByteArray) (kn ka kb kt : Int) (ns : List Nat) 
    (h4 : A.tmps.getD 4 undef = .pointer (some ⟨g4, 0, none⟩)) (h1 : A.tmps.getD 1 undef = .pointer (some ⟨X, 0, none⟩)) (q4 : Blk w1 g4 (#[.string wd, .int .i64 kn, .int .i64 ka, .int .i64 kb, .int .i64 kt])) (hT : PowT w1) (hn : ns.length ≤ 100)
    (hP : Hid (∀ W, Below w1.heap.size w1 W → Calls Tryd.prog 38 #[.agg (#[.string wd, .int .i64 kn, .int .i64 ka, .int .i64 kb, .int .i64 kt]), .pointer (some ⟨X, 0, none⟩)] W fun r w' => ∃ v, r = .returned v ∧ PlR w' v ns ∧ Below W.heap.size W w')) (hN : 20 ≤ A.tmps.size)
    (h : ∀ (w : World) (e : Nat × Value × Value × Value), Below w1.heap.size w1 w ∧ w.ownsRow w1.heap.size 9 1 e.2.2.2 (1 + ns.length) ((wd :: ns.map digB).map Value.string) → Q .normal (putsA A [(13, .pointer (some ⟨g4, 0, none⟩)), (14, .string wd), (15, .slice (some ⟨e.1, 0, none⟩) 1 1), (16, .agg (#[.string wd, .int .i64 kn, .int .i64 ka, .int .i64 kb, .int .i64 kt])), (17, e.2.1), (18, e.2.2.1), (19, e.2.2.2), (5, e.2.2.2)]) w) :
    (Code.region 4 #[({ dst := some 13, op := Op.fieldAddr 62 (Operand.tmp 4) 0, type := 0, pos := "l05_code.go:247", after := #[], guard := none } : Oper), ({ dst := some 14, op := Op.load 9 (Operand.tmp 13), type := 9, pos := "l05_code.go:247", after := #[{ on := 0, ground := Ground.data }], guard := none } : Oper), ({ dst := some 15, op := Op.buildSlice 37 1 #[(0, Operand.tmp 14)], type := 37, pos := "l05_code.go:247", after := #[{ on := 1, ground := Ground.data }], guard := none } : Oper), ({ dst := some 16, op := Op.load 62 (Operand.tmp 4), type := 62, pos := "l05_code.go:247", after := #[], guard := none } : Oper), ({ dst := some 17, op := Op.call { callee := Callee.value (Operand.func 38), args := #[Operand.tmp 16, Operand.tmp 1], argTypes := #[62, 73] }, type := 71, pos := "l05_code.go:247", after := #[{ on := 3, ground := Ground.data }], guard := none } : Oper), ({ dst := some 18, op := Op.call { callee := Callee.value (Operand.func 37), args := #[Operand.tmp 17], argTypes := #[71] }, type := 37, pos := "l05_code.go:247", after := #[{ on := 4, ground := Ground.data }, { on := 4, ground := Ground.chain }], guard := none } : Oper), ({ dst := some 19, op := Op.call { callee := Callee.builtin Builtin.append, args := #[Operand.tmp 15, Operand.tmp 18], argTypes := #[37, 37] }, type := 37, pos := "l05_code.go:247", after := #[{ on := 2, ground := Ground.data }, { on := 5, ground := Ground.data }, { on := 5, ground := Ground.chain }], guard := none } : Oper), ({ dst := some 5, op := Op.assign (Operand.tmp 19), type := 37, pos := "l05_code.go:247", after := #[{ on := 6, ground := Ground.data }, { on := 6, ground := Ground.chain }, { on := 0, ground := Ground.phase }, { on := 1, ground := Ground.phase }, { on := 2, ground := Ground.phase }, { on := 3, ground := Ground.phase }, { on := 4, ground := Ground.phase }, { on := 5, ground := Ground.phase }, { on := 6, ground := Ground.phase }], guard := none } : Oper)] true).wp Tryd.prog Q A w1 := by
  show (Code.region 4 ti_O true).wp Tryd.prog Q A w1
  refine wp_region_slots (E := Nat × Value × Value × Value) (ti_V g4 X wd kn ka kb kt ns) (ti_J w1 g4 X wd kn ka kb kt ns) (by kernel_rfl) (by kernel_rfl) (by kernel_rfl) (fun i s hi => ?_) ?_ (0, undef, undef, undef) ⟨(Below.refl _ _).drew, fun h => (by cases h), fun h => (by cases h), fun h => (by cases h), fun h => (by cases h), fun h => (by cases h), fun h => (by cases h), fun h => (by cases h), fun h => (by cases h)⟩ ?_
  · cases hc : ([13, 14, 15, 16, 17, 18, 19, 5] : List Nat).contains s
    · exact absurd hi (ti_no hc i)
    · have : s ∈ ([13, 14, 15, 16, 17, 18, 19, 5] : List Nat) := by simpa using hc
      simp only [List.mem_cons, List.not_mem_nil, or_false] at this
      omega
  · intro f e a w i o hi ho hun hdep hJ hFr K hK
    have hi8 : i < 8 := hi
    rcases (by omega : i = 0 ∨ i = 1 ∨ i = 2 ∨ i = 3 ∨ i = 4 ∨ i = 5 ∨ i = 6 ∨ i = 7) with rfl | rfl | rfl | rfl | rfl | rfl | rfl | rfl
    · obtain rfl := Option.some.inj ho
      exact ti_s0 A w1 Q g4 X wd kn ka kb kt ns h4 h1 q4 hT hn hP f e a w hun hdep hJ hFr K hK
    · obtain rfl := Option.some.inj ho
      exact ti_s1 A w1 Q g4 X wd kn ka kb kt ns h4 h1 q4 hT hn hP f e a w hun hdep hJ hFr K hK
    · obtain rfl := Option.some.inj ho
      exact ti_s2 A w1 Q g4 X wd kn ka kb kt ns h4 h1 q4 hT hn hP f e a w hun hdep hJ hFr K hK
    · obtain rfl := Option.some.inj ho
      exact ti_s3 A w1 Q g4 X wd kn ka kb kt ns h4 h1 q4 hT hn hP f e a w hun hdep hJ hFr K hK
    · obtain rfl := Option.some.inj ho
      exact ti_s4 A w1 Q g4 X wd kn ka kb kt ns h4 h1 q4 hT hn hP f e a w hun hdep hJ hFr K hK
    · obtain rfl := Option.some.inj ho
      exact ti_s5 A w1 Q g4 X wd kn ka kb kt ns h4 h1 q4 hT hn hP f e a w hun hdep hJ hFr K hK
    · obtain rfl := Option.some.inj ho
      exact ti_s6 A w1 Q g4 X wd kn ka kb kt ns h4 h1 q4 hT hn hP f e a w hun hdep hJ hFr K hK
    · obtain rfl := Option.some.inj ho
      exact ti_s7 A w1 Q g4 X wd kn ka kb kt ns h4 h1 q4 hT hn hP f e a w hun hdep hJ hFr K hK
  · intro f e a w hall hJ hFr
    have := h w e ⟨hJ.1, hJ.2.2.2.2.1 (hall 6 (by decide))⟩
    rw [hFr.eq [(13, .pointer (some ⟨g4, 0, none⟩)), (14, .string wd), (15, .slice (some ⟨e.1, 0, none⟩) 1 1), (16, .agg (#[.string wd, .int .i64 kn, .int .i64 ka, .int .i64 kb, .int .i64 kt])), (17, e.2.1), (18, e.2.2.1), (19, e.2.2.2), (5, e.2.2.2)] (fun s hs => ?_) (fun i s hi => ?_)]
    · exact this
    · have hne : ∀ k ∈ ([13, 14, 15, 16, 17, 18, 19, 5] : List Nat), k ≠ s := by
        intro k hk e2
        subst e2
        simp only [List.mem_cons, List.not_mem_nil, or_false] at hk
        rcases hk with rfl | rfl | rfl | rfl | rfl | rfl | rfl | rfl
        · exact hs 0 rfl
        · exact hs 1 rfl
        · exact hs 2 rfl
        · exact hs 3 rfl
        · exact hs 4 rfl
        · exact hs 5 rfl
        · exact hs 6 rfl
        · exact hs 7 rfl
      simp only [lookA]
      simp [hne]
    · have hl : i < 8 := by
        rcases Nat.lt_or_ge i 8 with h1 | h1
        · exact h1
        · unfold dstAt at hi
          rw [Array.getElem?_eq_none (by exact h1)] at hi
          cases hi
      refine ⟨hall i hl, ?_⟩
      rcases (by omega : i = 0 ∨ i = 1 ∨ i = 2 ∨ i = 3 ∨ i = 4 ∨ i = 5 ∨ i = 6 ∨ i = 7) with rfl | rfl | rfl | rfl | rfl | rfl | rfl | rfl
      all_goals first
        | (cases hi; rfl)
        | cases hi
end Go.Proofs.YtneagomkohoceaaDoor
