/- An act's text: the specification. -/
import Derived.Test.YtneagomkohoceabDoorTxk
import Derived.Test.YtneagomkohoceabDoorIw
namespace Go.Proofs.YtneagomkohoceabDoor
open Go.ChangeShapes Go.WideShapes Go.ChangeAt Go.RowKit
set_option linter.unusedVariables false
set_option linter.unusedSimpArgs false

def acwA : Array Value := #[.string ⟨#[]⟩, .string ⟨#[107, 101, 121]⟩, .string ⟨#[106, 111, 121]⟩, .string ⟨#[112, 108, 97, 121]⟩, .string ⟨#[115, 116, 111, 112]⟩, .string ⟨#[114, 101, 119, 105, 110, 100]⟩, .string ⟨#[102, 114, 97, 109, 101, 115]⟩, .string ⟨#[115, 97, 118, 101]⟩, .string ⟨#[108, 111, 97, 100]⟩]
theorem acwA_at : ∀ k, k < 9 → acwA[k]? = some (.string (acW k)) := fun k hk => match k, hk with
  | 0, _ => rfl
  | 1, _ => rfl
  | 2, _ => rfl
  | 3, _ => rfl
  | 4, _ => rfl
  | 5, _ => rfl
  | 6, _ => rfl
  | 7, _ => rfl
  | 8, _ => rfl
  | k + 9, h => by omega
def btX (d : Bool) : Nat := if d = true then 1 else 0
def udA : Array Value := #[.string ⟨#[117, 112]⟩, .string ⟨#[100, 111, 119, 110]⟩]
theorem udA_at (d : Bool) : udA[btX d]? = some (.string (downB d)) := by cases d <;> rfl
theorem acwords_spec (w : World) : Calls Tryd.prog 109 #[] w fun e w' => (∃ g, e = .returned (.slice (some ⟨g, 0, none⟩) 9 9) ∧ ∀ i, i < 9 → w'.cell? ⟨g, i, none⟩ = some (.string (acW i))) ∧ Below w.heap.size w w' := by
  have hx : Hid (∀ i, i < 9 → (w.alloc (.cells acwA 9)).cell? ⟨w.heap.size, i, none⟩ = some (.string (acW i))) := fun i hi => by
    rw [World.cell?_alloc_at _ _ _ _ rfl]
    exact acwA_at i hi
  go_enter Tryd.func109, Tryd.ntmps109
  go_wp2
  go_ret
  exact ⟨⟨_, rfl, hx.out⟩, (Below.refl _ _).alloc (Nat.le_refl _) _⟩
theorem bitX_spec (d : Bool) (w : World) : Calls Tryd.prog 110 #[.bool d] w fun e w' => e = .returned (.int .i64 (btX d : Nat)) ∧ w' = w := by
  cases d
  all_goals
    go_enter Tryd.func110, Tryd.ntmps110
    go_wp2
    go_ret
    exact ⟨rfl, rfl⟩
def ea_V (b kk aa bb bt : Nat) (dd : Bool) (WK DA DB DN : ByteArray) : Nat → Nat → Value := fun i e => match i with
  | 0 => .string (WK)
  | 1 => .string (WK ++ ⟨#[32]⟩)
  | 2 => .pointer (some ⟨b, 1, none⟩)
  | 3 => .int .i64 (aa : Int)
  | 4 => .string (DA)
  | 5 => .string (WK ++ ⟨#[32]⟩ ++ DA)
  | 6 => .string (WK ++ ⟨#[32]⟩ ++ DA ++ ⟨#[32]⟩)
  | 7 => .pointer (some ⟨b, 2, none⟩)
  | 8 => .int .i64 (bb : Int)
  | 9 => .string (DB)
  | 10 => .string (WK ++ ⟨#[32]⟩ ++ DA ++ ⟨#[32]⟩ ++ DB)
  | 11 => .string (WK ++ ⟨#[32]⟩ ++ DA ++ ⟨#[32]⟩ ++ DB ++ ⟨#[32]⟩)
  | 12 => .slice (some ⟨e, 0, none⟩) 2 2
  | 13 => .pointer (some ⟨b, 3, none⟩)
  | 14 => .bool dd
  | 15 => .int .i64 (bt : Int)
  | 16 => .pointer (some ⟨e, bt, none⟩)
  | 17 => .string (DN)
  | 18 => .string (WK ++ ⟨#[32]⟩ ++ DA ++ ⟨#[32]⟩ ++ DB ++ ⟨#[32]⟩ ++ DN)
  | 19 => .string (WK ++ ⟨#[32]⟩ ++ DA ++ ⟨#[32]⟩ ++ DB ++ ⟨#[32]⟩ ++ DN)
  | _ => undef
def ea_J (w1 : World) (b kk aa bb bt : Nat) (dd : Bool) (WK DA DB DN : ByteArray) (f : Nat → Bool) (e : Nat) (w : World) : Prop :=
  Below w1.heap.size w1 w ∧ (f 12 = true → w1.heap.size ≤ e ∧ Blk w e udA) ∧ (f 16 = true → f 12 = true)
def ea_o0 : Oper := ({ dst := some 13, op := Op.move (Operand.tmp 3), type := 9, pos := "l15_text.go:94", after := #[], guard := none } : Oper)
def ea_o1 : Oper := ({ dst := some 14, op := Op.binOp BinOp.add 9 (Operand.tmp 13) (Operand.const (Value.string { data := #[32] })) 9, type := 9, pos := "l15_text.go:94", after := #[{ on := 0, ground := Ground.data }], guard := none } : Oper)
def ea_o2 : Oper := ({ dst := some 15, op := Op.fieldAddr 68 (Operand.tmp 1) 1, type := 0, pos := "l15_text.go:94", after := #[], guard := none } : Oper)
def ea_o3 : Oper := ({ dst := some 16, op := Op.load 3 (Operand.tmp 15), type := 3, pos := "l15_text.go:94", after := #[{ on := 2, ground := Ground.data }], guard := none } : Oper)
def ea_o4 : Oper := ({ dst := some 17, op := Op.call { callee := Callee.value (Operand.func 78), args := #[Operand.tmp 16], argTypes := #[3] }, type := 9, pos := "l15_text.go:94", after := #[{ on := 3, ground := Ground.data }], guard := none } : Oper)
def ea_o5 : Oper := ({ dst := some 18, op := Op.binOp BinOp.add 9 (Operand.tmp 14) (Operand.tmp 17) 9, type := 9, pos := "l15_text.go:94", after := #[{ on := 1, ground := Ground.data }, { on := 4, ground := Ground.data }], guard := none } : Oper)
def ea_o6 : Oper := ({ dst := some 19, op := Op.binOp BinOp.add 9 (Operand.tmp 18) (Operand.const (Value.string { data := #[32] })) 9, type := 9, pos := "l15_text.go:94", after := #[{ on := 5, ground := Ground.data }], guard := none } : Oper)
def ea_o7 : Oper := ({ dst := some 20, op := Op.fieldAddr 68 (Operand.tmp 1) 2, type := 0, pos := "l15_text.go:94", after := #[], guard := none } : Oper)
def ea_o8 : Oper := ({ dst := some 21, op := Op.load 3 (Operand.tmp 20), type := 3, pos := "l15_text.go:94", after := #[{ on := 7, ground := Ground.data }], guard := none } : Oper)
def ea_o9 : Oper := ({ dst := some 22, op := Op.call { callee := Callee.value (Operand.func 78), args := #[Operand.tmp 21], argTypes := #[3] }, type := 9, pos := "l15_text.go:94", after := #[{ on := 8, ground := Ground.data }, { on := 4, ground := Ground.chain }], guard := none } : Oper)
def ea_o10 : Oper := ({ dst := some 23, op := Op.binOp BinOp.add 9 (Operand.tmp 19) (Operand.tmp 22) 9, type := 9, pos := "l15_text.go:94", after := #[{ on := 6, ground := Ground.data }, { on := 9, ground := Ground.data }], guard := none } : Oper)
def ea_o11 : Oper := ({ dst := some 24, op := Op.binOp BinOp.add 9 (Operand.tmp 23) (Operand.const (Value.string { data := #[32] })) 9, type := 9, pos := "l15_text.go:94", after := #[{ on := 10, ground := Ground.data }], guard := none } : Oper)
def ea_o12 : Oper := ({ dst := some 25, op := Op.buildSlice 48 2 #[(0, Operand.const (Value.string { data := #[117, 112] })), (1, Operand.const (Value.string { data := #[100, 111, 119, 110] }))], type := 48, pos := "l15_text.go:94", after := #[], guard := none } : Oper)
def ea_o13 : Oper := ({ dst := some 26, op := Op.fieldAddr 68 (Operand.tmp 1) 3, type := 0, pos := "l15_text.go:94", after := #[], guard := none } : Oper)
def ea_o14 : Oper := ({ dst := some 27, op := Op.load 4 (Operand.tmp 26), type := 4, pos := "l15_text.go:94", after := #[{ on := 13, ground := Ground.data }], guard := none } : Oper)
def ea_o15 : Oper := ({ dst := some 28, op := Op.call { callee := Callee.value (Operand.func 110), args := #[Operand.tmp 27], argTypes := #[4] }, type := 3, pos := "l15_text.go:94", after := #[{ on := 14, ground := Ground.data }, { on := 9, ground := Ground.chain }], guard := none } : Oper)
def ea_o16 : Oper := ({ dst := some 29, op := Op.indexAddr 48 (Operand.tmp 25) (Operand.tmp 28), type := 0, pos := "l15_text.go:94", after := #[{ on := 12, ground := Ground.data }, { on := 15, ground := Ground.data }], guard := none } : Oper)
def ea_o17 : Oper := ({ dst := some 30, op := Op.load 9 (Operand.tmp 29), type := 9, pos := "l15_text.go:94", after := #[{ on := 16, ground := Ground.data }], guard := none } : Oper)
def ea_o18 : Oper := ({ dst := some 31, op := Op.binOp BinOp.add 9 (Operand.tmp 24) (Operand.tmp 30) 9, type := 9, pos := "l15_text.go:94", after := #[{ on := 11, ground := Ground.data }, { on := 17, ground := Ground.data }], guard := none } : Oper)
def ea_o19 : Oper := ({ dst := some 2, op := Op.assign (Operand.tmp 31), type := 9, pos := "l15_text.go:94", after := #[{ on := 18, ground := Ground.data }, { on := 15, ground := Ground.chain }, { on := 0, ground := Ground.phase }, { on := 1, ground := Ground.phase }, { on := 2, ground := Ground.phase }, { on := 3, ground := Ground.phase }, { on := 4, ground := Ground.phase }, { on := 5, ground := Ground.phase }, { on := 6, ground := Ground.phase }, { on := 7, ground := Ground.phase }, { on := 8, ground := Ground.phase }, { on := 9, ground := Ground.phase }, { on := 10, ground := Ground.phase }, { on := 11, ground := Ground.phase }, { on := 12, ground := Ground.phase }, { on := 13, ground := Ground.phase }, { on := 14, ground := Ground.phase }, { on := 15, ground := Ground.phase }, { on := 16, ground := Ground.phase }, { on := 17, ground := Ground.phase }, { on := 18, ground := Ground.phase }], guard := none } : Oper)
def ea_O : Array Oper := #[ea_o0, ea_o1, ea_o2, ea_o3, ea_o4, ea_o5, ea_o6, ea_o7, ea_o8, ea_o9, ea_o10, ea_o11, ea_o12, ea_o13, ea_o14, ea_o15, ea_o16, ea_o17, ea_o18, ea_o19]
theorem ea_no {s : Nat} (h : ([13, 14, 15, 16, 17, 18, 19, 20, 21, 22, 23, 24, 25, 26, 27, 28, 29, 30, 31, 2] : List Nat).contains s = false) : ∀ i, dstAt ea_O i ≠ some s := by
  intro i hi
  have hl : i < 20 := by
    rcases Nat.lt_or_ge i 20 with h1 | h1
    · exact h1
    · unfold dstAt at hi
      rw [Array.getElem?_eq_none (by exact h1)] at hi
      cases hi
  rcases (by omega : i = 0 ∨ i = 1 ∨ i = 2 ∨ i = 3 ∨ i = 4 ∨ i = 5 ∨ i = 6 ∨ i = 7 ∨ i = 8 ∨ i = 9 ∨ i = 10 ∨ i = 11 ∨ i = 12 ∨ i = 13 ∨ i = 14 ∨ i = 15 ∨ i = 16 ∨ i = 17 ∨ i = 18 ∨ i = 19) with rfl | rfl | rfl | rfl | rfl | rfl | rfl | rfl | rfl | rfl | rfl | rfl | rfl | rfl | rfl | rfl | rfl | rfl | rfl | rfl
  all_goals first
    | (cases hi; simp at h)
    | cases hi
theorem ea_k12 (b kk aa bb bt : Nat) (dd : Bool) (WK DA DB DN : ByteArray) {f : Nat → Bool} (e x : Nat) (hn : f 12 = false) (hu : f 16 = false) : ∀ j, f j = true → ea_V b kk aa bb bt dd WK DA DB DN j x = ea_V b kk aa bb bt dd WK DA DB DN j e := by
  intro j hj
  unfold ea_V
  split
  · rfl
  · rfl
  · rfl
  · rfl
  · rfl
  · rfl
  · rfl
  · rfl
  · rfl
  · rfl
  · rfl
  · rfl
  · rw [hn] at hj; cases hj
  · rfl
  · rfl
  · rfl
  · rw [hu] at hj; cases hj
  · rfl
  · rfl
  · rfl
  · rfl
set_option maxRecDepth 100000 in
set_option maxHeartbeats 2000000 in
theorem ea_s0 (A : Act) (w1 : World) (Q : Exit → Act → World → Prop) (b kk aa bb bt : Nat) (dd : Bool) (WK DA DB DN : ByteArray) 
    (h1 : A.tmps.getD 1 undef = .pointer (some ⟨b, 0, none⟩)) (h3 : A.tmps.getD 3 undef = .string WK) (qb : Blk w1 b (acA kk aa bb dd)) (hb2 : bt < 2) (hW : udA[bt]? = some (.string DN)) (hs : WK.size ≤ 100 ∧ DA.size ≤ 100 ∧ DB.size ≤ 100 ∧ DN.size ≤ 100)
    (hIA : Hid (∀ W, Calls Tryd.prog 78 #[.int .i64 (aa : Int)] W fun e w' => e = .returned (.string DA) ∧ Below W.heap.size W w')) (hIB : Hid (∀ W, Calls Tryd.prog 78 #[.int .i64 (bb : Int)] W fun e w' => e = .returned (.string DB) ∧ Below W.heap.size W w'))
    (hBt : Hid (∀ W, Calls Tryd.prog 110 #[.bool dd] W fun e w' => e = .returned (.int .i64 (bt : Int)) ∧ w' = W))
    (f : Nat → Bool) (e : Nat) (a : Act) (w : World) (hun : f 0 = false) (hdep : ∀ d ∈ ea_o0.after, Region.binds .any d = true → f d.on = true) (hJ : ea_J w1 b kk aa bb bt dd WK DA DB DN f e w) (hFr : Fr ea_O A f (fun j => ea_V b kk aa bb bt dd WK DA DB DN j e) a)
    (K : Act → World → Prop) (hK : Hid (∀ v e' w', v = ea_V b kk aa bb bt dd WK DA DB DN 0 e' → (∀ j, f j = true → ea_V b kk aa bb bt dd WK DA DB DN j e' = ea_V b kk aa bb bt dd WK DA DB DN j e) → ea_J w1 b kk aa bb bt dd WK DA DB DN (fun j => j == 0 || f j) e' w' → K (a.put ea_o0.dst v) w')) :
    if Region.wanted ea_o0 (yielded ea_O a.tmps) = true then Oper.wp Tryd.prog ea_o0 a w K Q else K (a.put ea_o0.dst undef) w := by
  unfold ea_o0 at hdep hK ⊢
  obtain ⟨hg, j4, jd⟩ := hJ
  have v3 := (hFr.old 3 (ea_no (by decide))).trans h3
  replace hg := hid hg
  replace j4 := hid j4
  replace jd := hid jd
  clear hdep hFr h1
  go_simp
  exact hK.out _ e _ rfl (fun _ _ => rfl) ⟨hg.out, j4.out, jd.out⟩
set_option maxRecDepth 100000 in
set_option maxHeartbeats 2000000 in
theorem ea_s1 (A : Act) (w1 : World) (Q : Exit → Act → World → Prop) (b kk aa bb bt : Nat) (dd : Bool) (WK DA DB DN : ByteArray) 
    (h1 : A.tmps.getD 1 undef = .pointer (some ⟨b, 0, none⟩)) (h3 : A.tmps.getD 3 undef = .string WK) (qb : Blk w1 b (acA kk aa bb dd)) (hb2 : bt < 2) (hW : udA[bt]? = some (.string DN)) (hs : WK.size ≤ 100 ∧ DA.size ≤ 100 ∧ DB.size ≤ 100 ∧ DN.size ≤ 100)
    (hIA : Hid (∀ W, Calls Tryd.prog 78 #[.int .i64 (aa : Int)] W fun e w' => e = .returned (.string DA) ∧ Below W.heap.size W w')) (hIB : Hid (∀ W, Calls Tryd.prog 78 #[.int .i64 (bb : Int)] W fun e w' => e = .returned (.string DB) ∧ Below W.heap.size W w'))
    (hBt : Hid (∀ W, Calls Tryd.prog 110 #[.bool dd] W fun e w' => e = .returned (.int .i64 (bt : Int)) ∧ w' = W))
    (f : Nat → Bool) (e : Nat) (a : Act) (w : World) (hun : f 1 = false) (hdep : ∀ d ∈ ea_o1.after, Region.binds .any d = true → f d.on = true) (hJ : ea_J w1 b kk aa bb bt dd WK DA DB DN f e w) (hFr : Fr ea_O A f (fun j => ea_V b kk aa bb bt dd WK DA DB DN j e) a)
    (K : Act → World → Prop) (hK : Hid (∀ v e' w', v = ea_V b kk aa bb bt dd WK DA DB DN 1 e' → (∀ j, f j = true → ea_V b kk aa bb bt dd WK DA DB DN j e' = ea_V b kk aa bb bt dd WK DA DB DN j e) → ea_J w1 b kk aa bb bt dd WK DA DB DN (fun j => j == 1 || f j) e' w' → K (a.put ea_o1.dst v) w')) :
    if Region.wanted ea_o1 (yielded ea_O a.tmps) = true then Oper.wp Tryd.prog ea_o1 a w K Q else K (a.put ea_o1.dst undef) w := by
  unfold ea_o1 at hdep hK ⊢
  obtain ⟨hg, j4, jd⟩ := hJ
  have k0 : f 0 = true := hdep { on := 0, ground := .data } (by simp) rfl
  have v13 : a.tmps.getD 13 undef = .string (WK) := hFr.new 0 13 rfl k0
  obtain ⟨hs1, hs2, hs3, hs4⟩ := hs
  have z0 : ¬ 9223372036854775807 < WK.size + 1 := by omega
  have z1 : ¬ 9223372036854775807 < WK.size + 1 + DA.size := by omega
  have z2 : ¬ 9223372036854775807 < WK.size + 1 + DA.size + 1 := by omega
  have z3 : ¬ 9223372036854775807 < WK.size + 1 + DA.size + 1 + DB.size := by omega
  have z4 : ¬ 9223372036854775807 < WK.size + 1 + DA.size + 1 + DB.size + 1 := by omega
  have z5 : ¬ 9223372036854775807 < WK.size + 1 + DA.size + 1 + DB.size + 1 + DN.size := by omega
  replace hg := hid hg
  replace j4 := hid j4
  replace jd := hid jd
  clear hdep hFr h1
  go_simp
  exact hK.out _ e _ rfl (fun _ _ => rfl) ⟨hg.out, j4.out, jd.out⟩
set_option maxRecDepth 100000 in
set_option maxHeartbeats 2000000 in
theorem ea_s2 (A : Act) (w1 : World) (Q : Exit → Act → World → Prop) (b kk aa bb bt : Nat) (dd : Bool) (WK DA DB DN : ByteArray) 
    (h1 : A.tmps.getD 1 undef = .pointer (some ⟨b, 0, none⟩)) (h3 : A.tmps.getD 3 undef = .string WK) (qb : Blk w1 b (acA kk aa bb dd)) (hb2 : bt < 2) (hW : udA[bt]? = some (.string DN)) (hs : WK.size ≤ 100 ∧ DA.size ≤ 100 ∧ DB.size ≤ 100 ∧ DN.size ≤ 100)
    (hIA : Hid (∀ W, Calls Tryd.prog 78 #[.int .i64 (aa : Int)] W fun e w' => e = .returned (.string DA) ∧ Below W.heap.size W w')) (hIB : Hid (∀ W, Calls Tryd.prog 78 #[.int .i64 (bb : Int)] W fun e w' => e = .returned (.string DB) ∧ Below W.heap.size W w'))
    (hBt : Hid (∀ W, Calls Tryd.prog 110 #[.bool dd] W fun e w' => e = .returned (.int .i64 (bt : Int)) ∧ w' = W))
    (f : Nat → Bool) (e : Nat) (a : Act) (w : World) (hun : f 2 = false) (hdep : ∀ d ∈ ea_o2.after, Region.binds .any d = true → f d.on = true) (hJ : ea_J w1 b kk aa bb bt dd WK DA DB DN f e w) (hFr : Fr ea_O A f (fun j => ea_V b kk aa bb bt dd WK DA DB DN j e) a)
    (K : Act → World → Prop) (hK : Hid (∀ v e' w', v = ea_V b kk aa bb bt dd WK DA DB DN 2 e' → (∀ j, f j = true → ea_V b kk aa bb bt dd WK DA DB DN j e' = ea_V b kk aa bb bt dd WK DA DB DN j e) → ea_J w1 b kk aa bb bt dd WK DA DB DN (fun j => j == 2 || f j) e' w' → K (a.put ea_o2.dst v) w')) :
    if Region.wanted ea_o2 (yielded ea_O a.tmps) = true then Oper.wp Tryd.prog ea_o2 a w K Q else K (a.put ea_o2.dst undef) w := by
  unfold ea_o2 at hdep hK ⊢
  obtain ⟨hg, j4, jd⟩ := hJ
  have v1 := (hFr.old 1 (ea_no (by decide))).trans h1
  replace hg := hid hg
  replace j4 := hid j4
  replace jd := hid jd
  clear hdep hFr h1
  go_simp
  exact hK.out _ e _ rfl (fun _ _ => rfl) ⟨hg.out, j4.out, jd.out⟩
set_option maxRecDepth 100000 in
set_option maxHeartbeats 2000000 in
theorem ea_s3 (A : Act) (w1 : World) (Q : Exit → Act → World → Prop) (b kk aa bb bt : Nat) (dd : Bool) (WK DA DB DN : ByteArray) 
    (h1 : A.tmps.getD 1 undef = .pointer (some ⟨b, 0, none⟩)) (h3 : A.tmps.getD 3 undef = .string WK) (qb : Blk w1 b (acA kk aa bb dd)) (hb2 : bt < 2) (hW : udA[bt]? = some (.string DN)) (hs : WK.size ≤ 100 ∧ DA.size ≤ 100 ∧ DB.size ≤ 100 ∧ DN.size ≤ 100)
    (hIA : Hid (∀ W, Calls Tryd.prog 78 #[.int .i64 (aa : Int)] W fun e w' => e = .returned (.string DA) ∧ Below W.heap.size W w')) (hIB : Hid (∀ W, Calls Tryd.prog 78 #[.int .i64 (bb : Int)] W fun e w' => e = .returned (.string DB) ∧ Below W.heap.size W w'))
    (hBt : Hid (∀ W, Calls Tryd.prog 110 #[.bool dd] W fun e w' => e = .returned (.int .i64 (bt : Int)) ∧ w' = W))
    (f : Nat → Bool) (e : Nat) (a : Act) (w : World) (hun : f 3 = false) (hdep : ∀ d ∈ ea_o3.after, Region.binds .any d = true → f d.on = true) (hJ : ea_J w1 b kk aa bb bt dd WK DA DB DN f e w) (hFr : Fr ea_O A f (fun j => ea_V b kk aa bb bt dd WK DA DB DN j e) a)
    (K : Act → World → Prop) (hK : Hid (∀ v e' w', v = ea_V b kk aa bb bt dd WK DA DB DN 3 e' → (∀ j, f j = true → ea_V b kk aa bb bt dd WK DA DB DN j e' = ea_V b kk aa bb bt dd WK DA DB DN j e) → ea_J w1 b kk aa bb bt dd WK DA DB DN (fun j => j == 3 || f j) e' w' → K (a.put ea_o3.dst v) w')) :
    if Region.wanted ea_o3 (yielded ea_O a.tmps) = true then Oper.wp Tryd.prog ea_o3 a w K Q else K (a.put ea_o3.dst undef) w := by
  unfold ea_o3 at hdep hK ⊢
  obtain ⟨hg, j4, jd⟩ := hJ
  have k2 : f 2 = true := hdep { on := 2, ground := .data } (by simp) rfl
  have v15 : a.tmps.getD 15 undef = .pointer (some ⟨b, 1, none⟩) := hFr.new 2 15 rfl k2
  have y : w.cell? ⟨b, 1, none⟩ = some (.int .i64 (aa : Int)) := (qb.below hg qb.lt).cell 1
  replace hg := hid hg
  replace j4 := hid j4
  replace jd := hid jd
  clear hdep hFr h1
  go_simp
  exact hK.out _ e _ rfl (fun _ _ => rfl) ⟨hg.out, j4.out, jd.out⟩
set_option maxRecDepth 100000 in
set_option maxHeartbeats 2000000 in
theorem ea_s4 (A : Act) (w1 : World) (Q : Exit → Act → World → Prop) (b kk aa bb bt : Nat) (dd : Bool) (WK DA DB DN : ByteArray) 
    (h1 : A.tmps.getD 1 undef = .pointer (some ⟨b, 0, none⟩)) (h3 : A.tmps.getD 3 undef = .string WK) (qb : Blk w1 b (acA kk aa bb dd)) (hb2 : bt < 2) (hW : udA[bt]? = some (.string DN)) (hs : WK.size ≤ 100 ∧ DA.size ≤ 100 ∧ DB.size ≤ 100 ∧ DN.size ≤ 100)
    (hIA : Hid (∀ W, Calls Tryd.prog 78 #[.int .i64 (aa : Int)] W fun e w' => e = .returned (.string DA) ∧ Below W.heap.size W w')) (hIB : Hid (∀ W, Calls Tryd.prog 78 #[.int .i64 (bb : Int)] W fun e w' => e = .returned (.string DB) ∧ Below W.heap.size W w'))
    (hBt : Hid (∀ W, Calls Tryd.prog 110 #[.bool dd] W fun e w' => e = .returned (.int .i64 (bt : Int)) ∧ w' = W))
    (f : Nat → Bool) (e : Nat) (a : Act) (w : World) (hun : f 4 = false) (hdep : ∀ d ∈ ea_o4.after, Region.binds .any d = true → f d.on = true) (hJ : ea_J w1 b kk aa bb bt dd WK DA DB DN f e w) (hFr : Fr ea_O A f (fun j => ea_V b kk aa bb bt dd WK DA DB DN j e) a)
    (K : Act → World → Prop) (hK : Hid (∀ v e' w', v = ea_V b kk aa bb bt dd WK DA DB DN 4 e' → (∀ j, f j = true → ea_V b kk aa bb bt dd WK DA DB DN j e' = ea_V b kk aa bb bt dd WK DA DB DN j e) → ea_J w1 b kk aa bb bt dd WK DA DB DN (fun j => j == 4 || f j) e' w' → K (a.put ea_o4.dst v) w')) :
    if Region.wanted ea_o4 (yielded ea_O a.tmps) = true then Oper.wp Tryd.prog ea_o4 a w K Q else K (a.put ea_o4.dst undef) w := by
  unfold ea_o4 at hdep hK ⊢
  obtain ⟨hg, j4, jd⟩ := hJ
  have k3 : f 3 = true := hdep { on := 3, ground := .data } (by simp) rfl
  have v16 : a.tmps.getD 16 undef = .int .i64 (aa : Int) := hFr.new 3 16 rfl k3
  replace hg := hid hg
  replace j4 := hid j4
  replace jd := hid jd
  clear hdep hFr h1
  go_simp
  go_at_call 78
  refine (hIA.out w).mono ?_
  rintro r w' ⟨rfl, hb'⟩
  have hb2 := hid (new_trans hg.out hb')
  have j4b : Hid (f 12 = true → w1.heap.size ≤ e ∧ Blk w' e udA) := fun h => ⟨(j4.out h).1, (j4.out h).2.below hb' (j4.out h).2.lt⟩
  clear hb'
  go_simp
  exact hK.out _ e _ rfl (fun _ _ => rfl) ⟨hb2.out, j4b.out, jd.out⟩
set_option maxRecDepth 100000 in
set_option maxHeartbeats 2000000 in
theorem ea_s5 (A : Act) (w1 : World) (Q : Exit → Act → World → Prop) (b kk aa bb bt : Nat) (dd : Bool) (WK DA DB DN : ByteArray) 
    (h1 : A.tmps.getD 1 undef = .pointer (some ⟨b, 0, none⟩)) (h3 : A.tmps.getD 3 undef = .string WK) (qb : Blk w1 b (acA kk aa bb dd)) (hb2 : bt < 2) (hW : udA[bt]? = some (.string DN)) (hs : WK.size ≤ 100 ∧ DA.size ≤ 100 ∧ DB.size ≤ 100 ∧ DN.size ≤ 100)
    (hIA : Hid (∀ W, Calls Tryd.prog 78 #[.int .i64 (aa : Int)] W fun e w' => e = .returned (.string DA) ∧ Below W.heap.size W w')) (hIB : Hid (∀ W, Calls Tryd.prog 78 #[.int .i64 (bb : Int)] W fun e w' => e = .returned (.string DB) ∧ Below W.heap.size W w'))
    (hBt : Hid (∀ W, Calls Tryd.prog 110 #[.bool dd] W fun e w' => e = .returned (.int .i64 (bt : Int)) ∧ w' = W))
    (f : Nat → Bool) (e : Nat) (a : Act) (w : World) (hun : f 5 = false) (hdep : ∀ d ∈ ea_o5.after, Region.binds .any d = true → f d.on = true) (hJ : ea_J w1 b kk aa bb bt dd WK DA DB DN f e w) (hFr : Fr ea_O A f (fun j => ea_V b kk aa bb bt dd WK DA DB DN j e) a)
    (K : Act → World → Prop) (hK : Hid (∀ v e' w', v = ea_V b kk aa bb bt dd WK DA DB DN 5 e' → (∀ j, f j = true → ea_V b kk aa bb bt dd WK DA DB DN j e' = ea_V b kk aa bb bt dd WK DA DB DN j e) → ea_J w1 b kk aa bb bt dd WK DA DB DN (fun j => j == 5 || f j) e' w' → K (a.put ea_o5.dst v) w')) :
    if Region.wanted ea_o5 (yielded ea_O a.tmps) = true then Oper.wp Tryd.prog ea_o5 a w K Q else K (a.put ea_o5.dst undef) w := by
  unfold ea_o5 at hdep hK ⊢
  obtain ⟨hg, j4, jd⟩ := hJ
  have k1 : f 1 = true := hdep { on := 1, ground := .data } (by simp) rfl
  have v14 : a.tmps.getD 14 undef = .string (WK ++ ⟨#[32]⟩) := hFr.new 1 14 rfl k1
  have k4 : f 4 = true := hdep { on := 4, ground := .data } (by simp) rfl
  have v17 : a.tmps.getD 17 undef = .string (DA) := hFr.new 4 17 rfl k4
  obtain ⟨hs1, hs2, hs3, hs4⟩ := hs
  have z0 : ¬ 9223372036854775807 < WK.size + 1 := by omega
  have z1 : ¬ 9223372036854775807 < WK.size + 1 + DA.size := by omega
  have z2 : ¬ 9223372036854775807 < WK.size + 1 + DA.size + 1 := by omega
  have z3 : ¬ 9223372036854775807 < WK.size + 1 + DA.size + 1 + DB.size := by omega
  have z4 : ¬ 9223372036854775807 < WK.size + 1 + DA.size + 1 + DB.size + 1 := by omega
  have z5 : ¬ 9223372036854775807 < WK.size + 1 + DA.size + 1 + DB.size + 1 + DN.size := by omega
  replace hg := hid hg
  replace j4 := hid j4
  replace jd := hid jd
  clear hdep hFr h1
  go_simp
  exact hK.out _ e _ rfl (fun _ _ => rfl) ⟨hg.out, j4.out, jd.out⟩
set_option maxRecDepth 100000 in
set_option maxHeartbeats 2000000 in
theorem ea_s6 (A : Act) (w1 : World) (Q : Exit → Act → World → Prop) (b kk aa bb bt : Nat) (dd : Bool) (WK DA DB DN : ByteArray) 
    (h1 : A.tmps.getD 1 undef = .pointer (some ⟨b, 0, none⟩)) (h3 : A.tmps.getD 3 undef = .string WK) (qb : Blk w1 b (acA kk aa bb dd)) (hb2 : bt < 2) (hW : udA[bt]? = some (.string DN)) (hs : WK.size ≤ 100 ∧ DA.size ≤ 100 ∧ DB.size ≤ 100 ∧ DN.size ≤ 100)
    (hIA : Hid (∀ W, Calls Tryd.prog 78 #[.int .i64 (aa : Int)] W fun e w' => e = .returned (.string DA) ∧ Below W.heap.size W w')) (hIB : Hid (∀ W, Calls Tryd.prog 78 #[.int .i64 (bb : Int)] W fun e w' => e = .returned (.string DB) ∧ Below W.heap.size W w'))
    (hBt : Hid (∀ W, Calls Tryd.prog 110 #[.bool dd] W fun e w' => e = .returned (.int .i64 (bt : Int)) ∧ w' = W))
    (f : Nat → Bool) (e : Nat) (a : Act) (w : World) (hun : f 6 = false) (hdep : ∀ d ∈ ea_o6.after, Region.binds .any d = true → f d.on = true) (hJ : ea_J w1 b kk aa bb bt dd WK DA DB DN f e w) (hFr : Fr ea_O A f (fun j => ea_V b kk aa bb bt dd WK DA DB DN j e) a)
    (K : Act → World → Prop) (hK : Hid (∀ v e' w', v = ea_V b kk aa bb bt dd WK DA DB DN 6 e' → (∀ j, f j = true → ea_V b kk aa bb bt dd WK DA DB DN j e' = ea_V b kk aa bb bt dd WK DA DB DN j e) → ea_J w1 b kk aa bb bt dd WK DA DB DN (fun j => j == 6 || f j) e' w' → K (a.put ea_o6.dst v) w')) :
    if Region.wanted ea_o6 (yielded ea_O a.tmps) = true then Oper.wp Tryd.prog ea_o6 a w K Q else K (a.put ea_o6.dst undef) w := by
  unfold ea_o6 at hdep hK ⊢
  obtain ⟨hg, j4, jd⟩ := hJ
  have k5 : f 5 = true := hdep { on := 5, ground := .data } (by simp) rfl
  have v18 : a.tmps.getD 18 undef = .string (WK ++ ⟨#[32]⟩ ++ DA) := hFr.new 5 18 rfl k5
  obtain ⟨hs1, hs2, hs3, hs4⟩ := hs
  have z0 : ¬ 9223372036854775807 < WK.size + 1 := by omega
  have z1 : ¬ 9223372036854775807 < WK.size + 1 + DA.size := by omega
  have z2 : ¬ 9223372036854775807 < WK.size + 1 + DA.size + 1 := by omega
  have z3 : ¬ 9223372036854775807 < WK.size + 1 + DA.size + 1 + DB.size := by omega
  have z4 : ¬ 9223372036854775807 < WK.size + 1 + DA.size + 1 + DB.size + 1 := by omega
  have z5 : ¬ 9223372036854775807 < WK.size + 1 + DA.size + 1 + DB.size + 1 + DN.size := by omega
  replace hg := hid hg
  replace j4 := hid j4
  replace jd := hid jd
  clear hdep hFr h1
  go_simp
  exact hK.out _ e _ rfl (fun _ _ => rfl) ⟨hg.out, j4.out, jd.out⟩
set_option maxRecDepth 100000 in
set_option maxHeartbeats 2000000 in
theorem ea_s7 (A : Act) (w1 : World) (Q : Exit → Act → World → Prop) (b kk aa bb bt : Nat) (dd : Bool) (WK DA DB DN : ByteArray) 
    (h1 : A.tmps.getD 1 undef = .pointer (some ⟨b, 0, none⟩)) (h3 : A.tmps.getD 3 undef = .string WK) (qb : Blk w1 b (acA kk aa bb dd)) (hb2 : bt < 2) (hW : udA[bt]? = some (.string DN)) (hs : WK.size ≤ 100 ∧ DA.size ≤ 100 ∧ DB.size ≤ 100 ∧ DN.size ≤ 100)
    (hIA : Hid (∀ W, Calls Tryd.prog 78 #[.int .i64 (aa : Int)] W fun e w' => e = .returned (.string DA) ∧ Below W.heap.size W w')) (hIB : Hid (∀ W, Calls Tryd.prog 78 #[.int .i64 (bb : Int)] W fun e w' => e = .returned (.string DB) ∧ Below W.heap.size W w'))
    (hBt : Hid (∀ W, Calls Tryd.prog 110 #[.bool dd] W fun e w' => e = .returned (.int .i64 (bt : Int)) ∧ w' = W))
    (f : Nat → Bool) (e : Nat) (a : Act) (w : World) (hun : f 7 = false) (hdep : ∀ d ∈ ea_o7.after, Region.binds .any d = true → f d.on = true) (hJ : ea_J w1 b kk aa bb bt dd WK DA DB DN f e w) (hFr : Fr ea_O A f (fun j => ea_V b kk aa bb bt dd WK DA DB DN j e) a)
    (K : Act → World → Prop) (hK : Hid (∀ v e' w', v = ea_V b kk aa bb bt dd WK DA DB DN 7 e' → (∀ j, f j = true → ea_V b kk aa bb bt dd WK DA DB DN j e' = ea_V b kk aa bb bt dd WK DA DB DN j e) → ea_J w1 b kk aa bb bt dd WK DA DB DN (fun j => j == 7 || f j) e' w' → K (a.put ea_o7.dst v) w')) :
    if Region.wanted ea_o7 (yielded ea_O a.tmps) = true then Oper.wp Tryd.prog ea_o7 a w K Q else K (a.put ea_o7.dst undef) w := by
  unfold ea_o7 at hdep hK ⊢
  obtain ⟨hg, j4, jd⟩ := hJ
  have v1 := (hFr.old 1 (ea_no (by decide))).trans h1
  replace hg := hid hg
  replace j4 := hid j4
  replace jd := hid jd
  clear hdep hFr h1
  go_simp
  exact hK.out _ e _ rfl (fun _ _ => rfl) ⟨hg.out, j4.out, jd.out⟩
set_option maxRecDepth 100000 in
set_option maxHeartbeats 2000000 in
theorem ea_s8 (A : Act) (w1 : World) (Q : Exit → Act → World → Prop) (b kk aa bb bt : Nat) (dd : Bool) (WK DA DB DN : ByteArray) 
    (h1 : A.tmps.getD 1 undef = .pointer (some ⟨b, 0, none⟩)) (h3 : A.tmps.getD 3 undef = .string WK) (qb : Blk w1 b (acA kk aa bb dd)) (hb2 : bt < 2) (hW : udA[bt]? = some (.string DN)) (hs : WK.size ≤ 100 ∧ DA.size ≤ 100 ∧ DB.size ≤ 100 ∧ DN.size ≤ 100)
    (hIA : Hid (∀ W, Calls Tryd.prog 78 #[.int .i64 (aa : Int)] W fun e w' => e = .returned (.string DA) ∧ Below W.heap.size W w')) (hIB : Hid (∀ W, Calls Tryd.prog 78 #[.int .i64 (bb : Int)] W fun e w' => e = .returned (.string DB) ∧ Below W.heap.size W w'))
    (hBt : Hid (∀ W, Calls Tryd.prog 110 #[.bool dd] W fun e w' => e = .returned (.int .i64 (bt : Int)) ∧ w' = W))
    (f : Nat → Bool) (e : Nat) (a : Act) (w : World) (hun : f 8 = false) (hdep : ∀ d ∈ ea_o8.after, Region.binds .any d = true → f d.on = true) (hJ : ea_J w1 b kk aa bb bt dd WK DA DB DN f e w) (hFr : Fr ea_O A f (fun j => ea_V b kk aa bb bt dd WK DA DB DN j e) a)
    (K : Act → World → Prop) (hK : Hid (∀ v e' w', v = ea_V b kk aa bb bt dd WK DA DB DN 8 e' → (∀ j, f j = true → ea_V b kk aa bb bt dd WK DA DB DN j e' = ea_V b kk aa bb bt dd WK DA DB DN j e) → ea_J w1 b kk aa bb bt dd WK DA DB DN (fun j => j == 8 || f j) e' w' → K (a.put ea_o8.dst v) w')) :
    if Region.wanted ea_o8 (yielded ea_O a.tmps) = true then Oper.wp Tryd.prog ea_o8 a w K Q else K (a.put ea_o8.dst undef) w := by
  unfold ea_o8 at hdep hK ⊢
  obtain ⟨hg, j4, jd⟩ := hJ
  have k7 : f 7 = true := hdep { on := 7, ground := .data } (by simp) rfl
  have v20 : a.tmps.getD 20 undef = .pointer (some ⟨b, 2, none⟩) := hFr.new 7 20 rfl k7
  have y : w.cell? ⟨b, 2, none⟩ = some (.int .i64 (bb : Int)) := (qb.below hg qb.lt).cell 2
  replace hg := hid hg
  replace j4 := hid j4
  replace jd := hid jd
  clear hdep hFr h1
  go_simp
  exact hK.out _ e _ rfl (fun _ _ => rfl) ⟨hg.out, j4.out, jd.out⟩
set_option maxRecDepth 100000 in
set_option maxHeartbeats 2000000 in
theorem ea_s9 (A : Act) (w1 : World) (Q : Exit → Act → World → Prop) (b kk aa bb bt : Nat) (dd : Bool) (WK DA DB DN : ByteArray) 
    (h1 : A.tmps.getD 1 undef = .pointer (some ⟨b, 0, none⟩)) (h3 : A.tmps.getD 3 undef = .string WK) (qb : Blk w1 b (acA kk aa bb dd)) (hb2 : bt < 2) (hW : udA[bt]? = some (.string DN)) (hs : WK.size ≤ 100 ∧ DA.size ≤ 100 ∧ DB.size ≤ 100 ∧ DN.size ≤ 100)
    (hIA : Hid (∀ W, Calls Tryd.prog 78 #[.int .i64 (aa : Int)] W fun e w' => e = .returned (.string DA) ∧ Below W.heap.size W w')) (hIB : Hid (∀ W, Calls Tryd.prog 78 #[.int .i64 (bb : Int)] W fun e w' => e = .returned (.string DB) ∧ Below W.heap.size W w'))
    (hBt : Hid (∀ W, Calls Tryd.prog 110 #[.bool dd] W fun e w' => e = .returned (.int .i64 (bt : Int)) ∧ w' = W))
    (f : Nat → Bool) (e : Nat) (a : Act) (w : World) (hun : f 9 = false) (hdep : ∀ d ∈ ea_o9.after, Region.binds .any d = true → f d.on = true) (hJ : ea_J w1 b kk aa bb bt dd WK DA DB DN f e w) (hFr : Fr ea_O A f (fun j => ea_V b kk aa bb bt dd WK DA DB DN j e) a)
    (K : Act → World → Prop) (hK : Hid (∀ v e' w', v = ea_V b kk aa bb bt dd WK DA DB DN 9 e' → (∀ j, f j = true → ea_V b kk aa bb bt dd WK DA DB DN j e' = ea_V b kk aa bb bt dd WK DA DB DN j e) → ea_J w1 b kk aa bb bt dd WK DA DB DN (fun j => j == 9 || f j) e' w' → K (a.put ea_o9.dst v) w')) :
    if Region.wanted ea_o9 (yielded ea_O a.tmps) = true then Oper.wp Tryd.prog ea_o9 a w K Q else K (a.put ea_o9.dst undef) w := by
  unfold ea_o9 at hdep hK ⊢
  obtain ⟨hg, j4, jd⟩ := hJ
  have k8 : f 8 = true := hdep { on := 8, ground := .data } (by simp) rfl
  have v21 : a.tmps.getD 21 undef = .int .i64 (bb : Int) := hFr.new 8 21 rfl k8
  replace hg := hid hg
  replace j4 := hid j4
  replace jd := hid jd
  clear hdep hFr h1
  go_simp
  go_at_call 78
  refine (hIB.out w).mono ?_
  rintro r w' ⟨rfl, hb'⟩
  have hb2 := hid (new_trans hg.out hb')
  have j4b : Hid (f 12 = true → w1.heap.size ≤ e ∧ Blk w' e udA) := fun h => ⟨(j4.out h).1, (j4.out h).2.below hb' (j4.out h).2.lt⟩
  clear hb'
  go_simp
  exact hK.out _ e _ rfl (fun _ _ => rfl) ⟨hb2.out, j4b.out, jd.out⟩
set_option maxRecDepth 100000 in
set_option maxHeartbeats 2000000 in
theorem ea_s10 (A : Act) (w1 : World) (Q : Exit → Act → World → Prop) (b kk aa bb bt : Nat) (dd : Bool) (WK DA DB DN : ByteArray) 
    (h1 : A.tmps.getD 1 undef = .pointer (some ⟨b, 0, none⟩)) (h3 : A.tmps.getD 3 undef = .string WK) (qb : Blk w1 b (acA kk aa bb dd)) (hb2 : bt < 2) (hW : udA[bt]? = some (.string DN)) (hs : WK.size ≤ 100 ∧ DA.size ≤ 100 ∧ DB.size ≤ 100 ∧ DN.size ≤ 100)
    (hIA : Hid (∀ W, Calls Tryd.prog 78 #[.int .i64 (aa : Int)] W fun e w' => e = .returned (.string DA) ∧ Below W.heap.size W w')) (hIB : Hid (∀ W, Calls Tryd.prog 78 #[.int .i64 (bb : Int)] W fun e w' => e = .returned (.string DB) ∧ Below W.heap.size W w'))
    (hBt : Hid (∀ W, Calls Tryd.prog 110 #[.bool dd] W fun e w' => e = .returned (.int .i64 (bt : Int)) ∧ w' = W))
    (f : Nat → Bool) (e : Nat) (a : Act) (w : World) (hun : f 10 = false) (hdep : ∀ d ∈ ea_o10.after, Region.binds .any d = true → f d.on = true) (hJ : ea_J w1 b kk aa bb bt dd WK DA DB DN f e w) (hFr : Fr ea_O A f (fun j => ea_V b kk aa bb bt dd WK DA DB DN j e) a)
    (K : Act → World → Prop) (hK : Hid (∀ v e' w', v = ea_V b kk aa bb bt dd WK DA DB DN 10 e' → (∀ j, f j = true → ea_V b kk aa bb bt dd WK DA DB DN j e' = ea_V b kk aa bb bt dd WK DA DB DN j e) → ea_J w1 b kk aa bb bt dd WK DA DB DN (fun j => j == 10 || f j) e' w' → K (a.put ea_o10.dst v) w')) :
    if Region.wanted ea_o10 (yielded ea_O a.tmps) = true then Oper.wp Tryd.prog ea_o10 a w K Q else K (a.put ea_o10.dst undef) w := by
  unfold ea_o10 at hdep hK ⊢
  obtain ⟨hg, j4, jd⟩ := hJ
  have k6 : f 6 = true := hdep { on := 6, ground := .data } (by simp) rfl
  have v19 : a.tmps.getD 19 undef = .string (WK ++ ⟨#[32]⟩ ++ DA ++ ⟨#[32]⟩) := hFr.new 6 19 rfl k6
  have k9 : f 9 = true := hdep { on := 9, ground := .data } (by simp) rfl
  have v22 : a.tmps.getD 22 undef = .string (DB) := hFr.new 9 22 rfl k9
  obtain ⟨hs1, hs2, hs3, hs4⟩ := hs
  have z0 : ¬ 9223372036854775807 < WK.size + 1 := by omega
  have z1 : ¬ 9223372036854775807 < WK.size + 1 + DA.size := by omega
  have z2 : ¬ 9223372036854775807 < WK.size + 1 + DA.size + 1 := by omega
  have z3 : ¬ 9223372036854775807 < WK.size + 1 + DA.size + 1 + DB.size := by omega
  have z4 : ¬ 9223372036854775807 < WK.size + 1 + DA.size + 1 + DB.size + 1 := by omega
  have z5 : ¬ 9223372036854775807 < WK.size + 1 + DA.size + 1 + DB.size + 1 + DN.size := by omega
  replace hg := hid hg
  replace j4 := hid j4
  replace jd := hid jd
  clear hdep hFr h1
  go_simp
  exact hK.out _ e _ rfl (fun _ _ => rfl) ⟨hg.out, j4.out, jd.out⟩
set_option maxRecDepth 100000 in
set_option maxHeartbeats 2000000 in
theorem ea_s11 (A : Act) (w1 : World) (Q : Exit → Act → World → Prop) (b kk aa bb bt : Nat) (dd : Bool) (WK DA DB DN : ByteArray) 
    (h1 : A.tmps.getD 1 undef = .pointer (some ⟨b, 0, none⟩)) (h3 : A.tmps.getD 3 undef = .string WK) (qb : Blk w1 b (acA kk aa bb dd)) (hb2 : bt < 2) (hW : udA[bt]? = some (.string DN)) (hs : WK.size ≤ 100 ∧ DA.size ≤ 100 ∧ DB.size ≤ 100 ∧ DN.size ≤ 100)
    (hIA : Hid (∀ W, Calls Tryd.prog 78 #[.int .i64 (aa : Int)] W fun e w' => e = .returned (.string DA) ∧ Below W.heap.size W w')) (hIB : Hid (∀ W, Calls Tryd.prog 78 #[.int .i64 (bb : Int)] W fun e w' => e = .returned (.string DB) ∧ Below W.heap.size W w'))
    (hBt : Hid (∀ W, Calls Tryd.prog 110 #[.bool dd] W fun e w' => e = .returned (.int .i64 (bt : Int)) ∧ w' = W))
    (f : Nat → Bool) (e : Nat) (a : Act) (w : World) (hun : f 11 = false) (hdep : ∀ d ∈ ea_o11.after, Region.binds .any d = true → f d.on = true) (hJ : ea_J w1 b kk aa bb bt dd WK DA DB DN f e w) (hFr : Fr ea_O A f (fun j => ea_V b kk aa bb bt dd WK DA DB DN j e) a)
    (K : Act → World → Prop) (hK : Hid (∀ v e' w', v = ea_V b kk aa bb bt dd WK DA DB DN 11 e' → (∀ j, f j = true → ea_V b kk aa bb bt dd WK DA DB DN j e' = ea_V b kk aa bb bt dd WK DA DB DN j e) → ea_J w1 b kk aa bb bt dd WK DA DB DN (fun j => j == 11 || f j) e' w' → K (a.put ea_o11.dst v) w')) :
    if Region.wanted ea_o11 (yielded ea_O a.tmps) = true then Oper.wp Tryd.prog ea_o11 a w K Q else K (a.put ea_o11.dst undef) w := by
  unfold ea_o11 at hdep hK ⊢
  obtain ⟨hg, j4, jd⟩ := hJ
  have k10 : f 10 = true := hdep { on := 10, ground := .data } (by simp) rfl
  have v23 : a.tmps.getD 23 undef = .string (WK ++ ⟨#[32]⟩ ++ DA ++ ⟨#[32]⟩ ++ DB) := hFr.new 10 23 rfl k10
  obtain ⟨hs1, hs2, hs3, hs4⟩ := hs
  have z0 : ¬ 9223372036854775807 < WK.size + 1 := by omega
  have z1 : ¬ 9223372036854775807 < WK.size + 1 + DA.size := by omega
  have z2 : ¬ 9223372036854775807 < WK.size + 1 + DA.size + 1 := by omega
  have z3 : ¬ 9223372036854775807 < WK.size + 1 + DA.size + 1 + DB.size := by omega
  have z4 : ¬ 9223372036854775807 < WK.size + 1 + DA.size + 1 + DB.size + 1 := by omega
  have z5 : ¬ 9223372036854775807 < WK.size + 1 + DA.size + 1 + DB.size + 1 + DN.size := by omega
  replace hg := hid hg
  replace j4 := hid j4
  replace jd := hid jd
  clear hdep hFr h1
  go_simp
  exact hK.out _ e _ rfl (fun _ _ => rfl) ⟨hg.out, j4.out, jd.out⟩
set_option maxRecDepth 100000 in
set_option maxHeartbeats 2000000 in
theorem ea_s12 (A : Act) (w1 : World) (Q : Exit → Act → World → Prop) (b kk aa bb bt : Nat) (dd : Bool) (WK DA DB DN : ByteArray) 
    (h1 : A.tmps.getD 1 undef = .pointer (some ⟨b, 0, none⟩)) (h3 : A.tmps.getD 3 undef = .string WK) (qb : Blk w1 b (acA kk aa bb dd)) (hb2 : bt < 2) (hW : udA[bt]? = some (.string DN)) (hs : WK.size ≤ 100 ∧ DA.size ≤ 100 ∧ DB.size ≤ 100 ∧ DN.size ≤ 100)
    (hIA : Hid (∀ W, Calls Tryd.prog 78 #[.int .i64 (aa : Int)] W fun e w' => e = .returned (.string DA) ∧ Below W.heap.size W w')) (hIB : Hid (∀ W, Calls Tryd.prog 78 #[.int .i64 (bb : Int)] W fun e w' => e = .returned (.string DB) ∧ Below W.heap.size W w'))
    (hBt : Hid (∀ W, Calls Tryd.prog 110 #[.bool dd] W fun e w' => e = .returned (.int .i64 (bt : Int)) ∧ w' = W))
    (f : Nat → Bool) (e : Nat) (a : Act) (w : World) (hun : f 12 = false) (hdep : ∀ d ∈ ea_o12.after, Region.binds .any d = true → f d.on = true) (hJ : ea_J w1 b kk aa bb bt dd WK DA DB DN f e w) (hFr : Fr ea_O A f (fun j => ea_V b kk aa bb bt dd WK DA DB DN j e) a)
    (K : Act → World → Prop) (hK : Hid (∀ v e' w', v = ea_V b kk aa bb bt dd WK DA DB DN 12 e' → (∀ j, f j = true → ea_V b kk aa bb bt dd WK DA DB DN j e' = ea_V b kk aa bb bt dd WK DA DB DN j e) → ea_J w1 b kk aa bb bt dd WK DA DB DN (fun j => j == 12 || f j) e' w' → K (a.put ea_o12.dst v) w')) :
    if Region.wanted ea_o12 (yielded ea_O a.tmps) = true then Oper.wp Tryd.prog ea_o12 a w K Q else K (a.put ea_o12.dst undef) w := by
  unfold ea_o12 at hdep hK ⊢
  obtain ⟨hg, j4, jd⟩ := hJ
  have fi : f 16 = false := by
    cases hx : f 16
    · rfl
    · rw [jd hx] at hun; cases hun
  have hal := hid ((Below.refl w.heap.size w).alloc (Nat.le_refl _) (.cells udA 9))
  have hq := hid (Blk.new w udA 9)
  have hsz : Hid (w1.heap.size ≤ w.heap.size) := hg.size
  replace hg := hid hg
  replace j4 := hid j4
  replace jd := hid jd
  clear hdep hFr h1
  go_simp
  exact hK.out _ w.heap.size _ rfl (ea_k12 b kk aa bb bt dd WK DA DB DN e w.heap.size hun fi) ⟨new_trans hg.out hal.out, fun _ => ⟨hsz.out, hq.out⟩, fun _ => rfl⟩
set_option maxRecDepth 100000 in
set_option maxHeartbeats 2000000 in
theorem ea_s13 (A : Act) (w1 : World) (Q : Exit → Act → World → Prop) (b kk aa bb bt : Nat) (dd : Bool) (WK DA DB DN : ByteArray) 
    (h1 : A.tmps.getD 1 undef = .pointer (some ⟨b, 0, none⟩)) (h3 : A.tmps.getD 3 undef = .string WK) (qb : Blk w1 b (acA kk aa bb dd)) (hb2 : bt < 2) (hW : udA[bt]? = some (.string DN)) (hs : WK.size ≤ 100 ∧ DA.size ≤ 100 ∧ DB.size ≤ 100 ∧ DN.size ≤ 100)
    (hIA : Hid (∀ W, Calls Tryd.prog 78 #[.int .i64 (aa : Int)] W fun e w' => e = .returned (.string DA) ∧ Below W.heap.size W w')) (hIB : Hid (∀ W, Calls Tryd.prog 78 #[.int .i64 (bb : Int)] W fun e w' => e = .returned (.string DB) ∧ Below W.heap.size W w'))
    (hBt : Hid (∀ W, Calls Tryd.prog 110 #[.bool dd] W fun e w' => e = .returned (.int .i64 (bt : Int)) ∧ w' = W))
    (f : Nat → Bool) (e : Nat) (a : Act) (w : World) (hun : f 13 = false) (hdep : ∀ d ∈ ea_o13.after, Region.binds .any d = true → f d.on = true) (hJ : ea_J w1 b kk aa bb bt dd WK DA DB DN f e w) (hFr : Fr ea_O A f (fun j => ea_V b kk aa bb bt dd WK DA DB DN j e) a)
    (K : Act → World → Prop) (hK : Hid (∀ v e' w', v = ea_V b kk aa bb bt dd WK DA DB DN 13 e' → (∀ j, f j = true → ea_V b kk aa bb bt dd WK DA DB DN j e' = ea_V b kk aa bb bt dd WK DA DB DN j e) → ea_J w1 b kk aa bb bt dd WK DA DB DN (fun j => j == 13 || f j) e' w' → K (a.put ea_o13.dst v) w')) :
    if Region.wanted ea_o13 (yielded ea_O a.tmps) = true then Oper.wp Tryd.prog ea_o13 a w K Q else K (a.put ea_o13.dst undef) w := by
  unfold ea_o13 at hdep hK ⊢
  obtain ⟨hg, j4, jd⟩ := hJ
  have v1 := (hFr.old 1 (ea_no (by decide))).trans h1
  replace hg := hid hg
  replace j4 := hid j4
  replace jd := hid jd
  clear hdep hFr h1
  go_simp
  exact hK.out _ e _ rfl (fun _ _ => rfl) ⟨hg.out, j4.out, jd.out⟩
set_option maxRecDepth 100000 in
set_option maxHeartbeats 2000000 in
theorem ea_s14 (A : Act) (w1 : World) (Q : Exit → Act → World → Prop) (b kk aa bb bt : Nat) (dd : Bool) (WK DA DB DN : ByteArray) 
    (h1 : A.tmps.getD 1 undef = .pointer (some ⟨b, 0, none⟩)) (h3 : A.tmps.getD 3 undef = .string WK) (qb : Blk w1 b (acA kk aa bb dd)) (hb2 : bt < 2) (hW : udA[bt]? = some (.string DN)) (hs : WK.size ≤ 100 ∧ DA.size ≤ 100 ∧ DB.size ≤ 100 ∧ DN.size ≤ 100)
    (hIA : Hid (∀ W, Calls Tryd.prog 78 #[.int .i64 (aa : Int)] W fun e w' => e = .returned (.string DA) ∧ Below W.heap.size W w')) (hIB : Hid (∀ W, Calls Tryd.prog 78 #[.int .i64 (bb : Int)] W fun e w' => e = .returned (.string DB) ∧ Below W.heap.size W w'))
    (hBt : Hid (∀ W, Calls Tryd.prog 110 #[.bool dd] W fun e w' => e = .returned (.int .i64 (bt : Int)) ∧ w' = W))
    (f : Nat → Bool) (e : Nat) (a : Act) (w : World) (hun : f 14 = false) (hdep : ∀ d ∈ ea_o14.after, Region.binds .any d = true → f d.on = true) (hJ : ea_J w1 b kk aa bb bt dd WK DA DB DN f e w) (hFr : Fr ea_O A f (fun j => ea_V b kk aa bb bt dd WK DA DB DN j e) a)
    (K : Act → World → Prop) (hK : Hid (∀ v e' w', v = ea_V b kk aa bb bt dd WK DA DB DN 14 e' → (∀ j, f j = true → ea_V b kk aa bb bt dd WK DA DB DN j e' = ea_V b kk aa bb bt dd WK DA DB DN j e) → ea_J w1 b kk aa bb bt dd WK DA DB DN (fun j => j == 14 || f j) e' w' → K (a.put ea_o14.dst v) w')) :
    if Region.wanted ea_o14 (yielded ea_O a.tmps) = true then Oper.wp Tryd.prog ea_o14 a w K Q else K (a.put ea_o14.dst undef) w := by
  unfold ea_o14 at hdep hK ⊢
  obtain ⟨hg, j4, jd⟩ := hJ
  have k13 : f 13 = true := hdep { on := 13, ground := .data } (by simp) rfl
  have v26 : a.tmps.getD 26 undef = .pointer (some ⟨b, 3, none⟩) := hFr.new 13 26 rfl k13
  have y : w.cell? ⟨b, 3, none⟩ = some (.bool dd) := (qb.below hg qb.lt).cell 3
  replace hg := hid hg
  replace j4 := hid j4
  replace jd := hid jd
  clear hdep hFr h1
  go_simp
  exact hK.out _ e _ rfl (fun _ _ => rfl) ⟨hg.out, j4.out, jd.out⟩
set_option maxRecDepth 100000 in
set_option maxHeartbeats 2000000 in
theorem ea_s15 (A : Act) (w1 : World) (Q : Exit → Act → World → Prop) (b kk aa bb bt : Nat) (dd : Bool) (WK DA DB DN : ByteArray) 
    (h1 : A.tmps.getD 1 undef = .pointer (some ⟨b, 0, none⟩)) (h3 : A.tmps.getD 3 undef = .string WK) (qb : Blk w1 b (acA kk aa bb dd)) (hb2 : bt < 2) (hW : udA[bt]? = some (.string DN)) (hs : WK.size ≤ 100 ∧ DA.size ≤ 100 ∧ DB.size ≤ 100 ∧ DN.size ≤ 100)
    (hIA : Hid (∀ W, Calls Tryd.prog 78 #[.int .i64 (aa : Int)] W fun e w' => e = .returned (.string DA) ∧ Below W.heap.size W w')) (hIB : Hid (∀ W, Calls Tryd.prog 78 #[.int .i64 (bb : Int)] W fun e w' => e = .returned (.string DB) ∧ Below W.heap.size W w'))
    (hBt : Hid (∀ W, Calls Tryd.prog 110 #[.bool dd] W fun e w' => e = .returned (.int .i64 (bt : Int)) ∧ w' = W))
    (f : Nat → Bool) (e : Nat) (a : Act) (w : World) (hun : f 15 = false) (hdep : ∀ d ∈ ea_o15.after, Region.binds .any d = true → f d.on = true) (hJ : ea_J w1 b kk aa bb bt dd WK DA DB DN f e w) (hFr : Fr ea_O A f (fun j => ea_V b kk aa bb bt dd WK DA DB DN j e) a)
    (K : Act → World → Prop) (hK : Hid (∀ v e' w', v = ea_V b kk aa bb bt dd WK DA DB DN 15 e' → (∀ j, f j = true → ea_V b kk aa bb bt dd WK DA DB DN j e' = ea_V b kk aa bb bt dd WK DA DB DN j e) → ea_J w1 b kk aa bb bt dd WK DA DB DN (fun j => j == 15 || f j) e' w' → K (a.put ea_o15.dst v) w')) :
    if Region.wanted ea_o15 (yielded ea_O a.tmps) = true then Oper.wp Tryd.prog ea_o15 a w K Q else K (a.put ea_o15.dst undef) w := by
  unfold ea_o15 at hdep hK ⊢
  obtain ⟨hg, j4, jd⟩ := hJ
  have k14 : f 14 = true := hdep { on := 14, ground := .data } (by simp) rfl
  have v27 : a.tmps.getD 27 undef = .bool dd := hFr.new 14 27 rfl k14
  replace hg := hid hg
  replace j4 := hid j4
  replace jd := hid jd
  clear hdep hFr h1
  go_simp
  go_at_call 110
  refine (hBt.out w).mono ?_
  rintro r w' ⟨rfl, hww⟩
  obtain rfl := hww.symm
  go_simp
  exact hK.out _ e _ rfl (fun _ _ => rfl) ⟨hg.out, j4.out, jd.out⟩
set_option maxRecDepth 100000 in
set_option maxHeartbeats 2000000 in
theorem ea_s16 (A : Act) (w1 : World) (Q : Exit → Act → World → Prop) (b kk aa bb bt : Nat) (dd : Bool) (WK DA DB DN : ByteArray) 
    (h1 : A.tmps.getD 1 undef = .pointer (some ⟨b, 0, none⟩)) (h3 : A.tmps.getD 3 undef = .string WK) (qb : Blk w1 b (acA kk aa bb dd)) (hb2 : bt < 2) (hW : udA[bt]? = some (.string DN)) (hs : WK.size ≤ 100 ∧ DA.size ≤ 100 ∧ DB.size ≤ 100 ∧ DN.size ≤ 100)
    (hIA : Hid (∀ W, Calls Tryd.prog 78 #[.int .i64 (aa : Int)] W fun e w' => e = .returned (.string DA) ∧ Below W.heap.size W w')) (hIB : Hid (∀ W, Calls Tryd.prog 78 #[.int .i64 (bb : Int)] W fun e w' => e = .returned (.string DB) ∧ Below W.heap.size W w'))
    (hBt : Hid (∀ W, Calls Tryd.prog 110 #[.bool dd] W fun e w' => e = .returned (.int .i64 (bt : Int)) ∧ w' = W))
    (f : Nat → Bool) (e : Nat) (a : Act) (w : World) (hun : f 16 = false) (hdep : ∀ d ∈ ea_o16.after, Region.binds .any d = true → f d.on = true) (hJ : ea_J w1 b kk aa bb bt dd WK DA DB DN f e w) (hFr : Fr ea_O A f (fun j => ea_V b kk aa bb bt dd WK DA DB DN j e) a)
    (K : Act → World → Prop) (hK : Hid (∀ v e' w', v = ea_V b kk aa bb bt dd WK DA DB DN 16 e' → (∀ j, f j = true → ea_V b kk aa bb bt dd WK DA DB DN j e' = ea_V b kk aa bb bt dd WK DA DB DN j e) → ea_J w1 b kk aa bb bt dd WK DA DB DN (fun j => j == 16 || f j) e' w' → K (a.put ea_o16.dst v) w')) :
    if Region.wanted ea_o16 (yielded ea_O a.tmps) = true then Oper.wp Tryd.prog ea_o16 a w K Q else K (a.put ea_o16.dst undef) w := by
  unfold ea_o16 at hdep hK ⊢
  obtain ⟨hg, j4, jd⟩ := hJ
  have k12 : f 12 = true := hdep { on := 12, ground := .data } (by simp) rfl
  have v25 : a.tmps.getD 25 undef = .slice (some ⟨e, 0, none⟩) 2 2 := hFr.new 12 25 rfl k12
  have k15 : f 15 = true := hdep { on := 15, ground := .data } (by simp) rfl
  have v28 : a.tmps.getD 28 undef = .int .i64 (bt : Int) := hFr.new 15 28 rfl k15
  have j4x := j4 k12
  have hk0 : (0 : Int) ≤ (bt : Int) := by omega
  have hk1 : (bt : Int) < 2 := by omega
  replace hg := hid hg
  replace j4 := hid j4
  replace jd := hid jd
  clear hdep hFr h1
  go_simp
  exact hK.out _ e _ rfl (fun _ _ => rfl) ⟨hg.out, j4.out, fun _ => k12⟩
set_option maxRecDepth 100000 in
set_option maxHeartbeats 2000000 in
theorem ea_s17 (A : Act) (w1 : World) (Q : Exit → Act → World → Prop) (b kk aa bb bt : Nat) (dd : Bool) (WK DA DB DN : ByteArray) 
    (h1 : A.tmps.getD 1 undef = .pointer (some ⟨b, 0, none⟩)) (h3 : A.tmps.getD 3 undef = .string WK) (qb : Blk w1 b (acA kk aa bb dd)) (hb2 : bt < 2) (hW : udA[bt]? = some (.string DN)) (hs : WK.size ≤ 100 ∧ DA.size ≤ 100 ∧ DB.size ≤ 100 ∧ DN.size ≤ 100)
    (hIA : Hid (∀ W, Calls Tryd.prog 78 #[.int .i64 (aa : Int)] W fun e w' => e = .returned (.string DA) ∧ Below W.heap.size W w')) (hIB : Hid (∀ W, Calls Tryd.prog 78 #[.int .i64 (bb : Int)] W fun e w' => e = .returned (.string DB) ∧ Below W.heap.size W w'))
    (hBt : Hid (∀ W, Calls Tryd.prog 110 #[.bool dd] W fun e w' => e = .returned (.int .i64 (bt : Int)) ∧ w' = W))
    (f : Nat → Bool) (e : Nat) (a : Act) (w : World) (hun : f 17 = false) (hdep : ∀ d ∈ ea_o17.after, Region.binds .any d = true → f d.on = true) (hJ : ea_J w1 b kk aa bb bt dd WK DA DB DN f e w) (hFr : Fr ea_O A f (fun j => ea_V b kk aa bb bt dd WK DA DB DN j e) a)
    (K : Act → World → Prop) (hK : Hid (∀ v e' w', v = ea_V b kk aa bb bt dd WK DA DB DN 17 e' → (∀ j, f j = true → ea_V b kk aa bb bt dd WK DA DB DN j e' = ea_V b kk aa bb bt dd WK DA DB DN j e) → ea_J w1 b kk aa bb bt dd WK DA DB DN (fun j => j == 17 || f j) e' w' → K (a.put ea_o17.dst v) w')) :
    if Region.wanted ea_o17 (yielded ea_O a.tmps) = true then Oper.wp Tryd.prog ea_o17 a w K Q else K (a.put ea_o17.dst undef) w := by
  unfold ea_o17 at hdep hK ⊢
  obtain ⟨hg, j4, jd⟩ := hJ
  have k16 : f 16 = true := hdep { on := 16, ground := .data } (by simp) rfl
  have v29 : a.tmps.getD 29 undef = .pointer (some ⟨e, bt, none⟩) := hFr.new 16 29 rfl k16
  have kal := jd k16
  have y : w.cell? ⟨e, bt, none⟩ = some (.string (DN)) := (((j4 kal).2).cell bt).trans hW
  replace hg := hid hg
  replace j4 := hid j4
  replace jd := hid jd
  clear hdep hFr h1
  go_simp
  exact hK.out _ e _ rfl (fun _ _ => rfl) ⟨hg.out, j4.out, jd.out⟩
set_option maxRecDepth 100000 in
set_option maxHeartbeats 2000000 in
theorem ea_s18 (A : Act) (w1 : World) (Q : Exit → Act → World → Prop) (b kk aa bb bt : Nat) (dd : Bool) (WK DA DB DN : ByteArray) 
    (h1 : A.tmps.getD 1 undef = .pointer (some ⟨b, 0, none⟩)) (h3 : A.tmps.getD 3 undef = .string WK) (qb : Blk w1 b (acA kk aa bb dd)) (hb2 : bt < 2) (hW : udA[bt]? = some (.string DN)) (hs : WK.size ≤ 100 ∧ DA.size ≤ 100 ∧ DB.size ≤ 100 ∧ DN.size ≤ 100)
    (hIA : Hid (∀ W, Calls Tryd.prog 78 #[.int .i64 (aa : Int)] W fun e w' => e = .returned (.string DA) ∧ Below W.heap.size W w')) (hIB : Hid (∀ W, Calls Tryd.prog 78 #[.int .i64 (bb : Int)] W fun e w' => e = .returned (.string DB) ∧ Below W.heap.size W w'))
    (hBt : Hid (∀ W, Calls Tryd.prog 110 #[.bool dd] W fun e w' => e = .returned (.int .i64 (bt : Int)) ∧ w' = W))
    (f : Nat → Bool) (e : Nat) (a : Act) (w : World) (hun : f 18 = false) (hdep : ∀ d ∈ ea_o18.after, Region.binds .any d = true → f d.on = true) (hJ : ea_J w1 b kk aa bb bt dd WK DA DB DN f e w) (hFr : Fr ea_O A f (fun j => ea_V b kk aa bb bt dd WK DA DB DN j e) a)
    (K : Act → World → Prop) (hK : Hid (∀ v e' w', v = ea_V b kk aa bb bt dd WK DA DB DN 18 e' → (∀ j, f j = true → ea_V b kk aa bb bt dd WK DA DB DN j e' = ea_V b kk aa bb bt dd WK DA DB DN j e) → ea_J w1 b kk aa bb bt dd WK DA DB DN (fun j => j == 18 || f j) e' w' → K (a.put ea_o18.dst v) w')) :
    if Region.wanted ea_o18 (yielded ea_O a.tmps) = true then Oper.wp Tryd.prog ea_o18 a w K Q else K (a.put ea_o18.dst undef) w := by
  unfold ea_o18 at hdep hK ⊢
  obtain ⟨hg, j4, jd⟩ := hJ
  have k11 : f 11 = true := hdep { on := 11, ground := .data } (by simp) rfl
  have v24 : a.tmps.getD 24 undef = .string (WK ++ ⟨#[32]⟩ ++ DA ++ ⟨#[32]⟩ ++ DB ++ ⟨#[32]⟩) := hFr.new 11 24 rfl k11
  have k17 : f 17 = true := hdep { on := 17, ground := .data } (by simp) rfl
  have v30 : a.tmps.getD 30 undef = .string (DN) := hFr.new 17 30 rfl k17
  obtain ⟨hs1, hs2, hs3, hs4⟩ := hs
  have z0 : ¬ 9223372036854775807 < WK.size + 1 := by omega
  have z1 : ¬ 9223372036854775807 < WK.size + 1 + DA.size := by omega
  have z2 : ¬ 9223372036854775807 < WK.size + 1 + DA.size + 1 := by omega
  have z3 : ¬ 9223372036854775807 < WK.size + 1 + DA.size + 1 + DB.size := by omega
  have z4 : ¬ 9223372036854775807 < WK.size + 1 + DA.size + 1 + DB.size + 1 := by omega
  have z5 : ¬ 9223372036854775807 < WK.size + 1 + DA.size + 1 + DB.size + 1 + DN.size := by omega
  replace hg := hid hg
  replace j4 := hid j4
  replace jd := hid jd
  clear hdep hFr h1
  go_simp
  exact hK.out _ e _ rfl (fun _ _ => rfl) ⟨hg.out, j4.out, jd.out⟩
set_option maxRecDepth 100000 in
set_option maxHeartbeats 2000000 in
theorem ea_s19 (A : Act) (w1 : World) (Q : Exit → Act → World → Prop) (b kk aa bb bt : Nat) (dd : Bool) (WK DA DB DN : ByteArray) 
    (h1 : A.tmps.getD 1 undef = .pointer (some ⟨b, 0, none⟩)) (h3 : A.tmps.getD 3 undef = .string WK) (qb : Blk w1 b (acA kk aa bb dd)) (hb2 : bt < 2) (hW : udA[bt]? = some (.string DN)) (hs : WK.size ≤ 100 ∧ DA.size ≤ 100 ∧ DB.size ≤ 100 ∧ DN.size ≤ 100)
    (hIA : Hid (∀ W, Calls Tryd.prog 78 #[.int .i64 (aa : Int)] W fun e w' => e = .returned (.string DA) ∧ Below W.heap.size W w')) (hIB : Hid (∀ W, Calls Tryd.prog 78 #[.int .i64 (bb : Int)] W fun e w' => e = .returned (.string DB) ∧ Below W.heap.size W w'))
    (hBt : Hid (∀ W, Calls Tryd.prog 110 #[.bool dd] W fun e w' => e = .returned (.int .i64 (bt : Int)) ∧ w' = W))
    (f : Nat → Bool) (e : Nat) (a : Act) (w : World) (hun : f 19 = false) (hdep : ∀ d ∈ ea_o19.after, Region.binds .any d = true → f d.on = true) (hJ : ea_J w1 b kk aa bb bt dd WK DA DB DN f e w) (hFr : Fr ea_O A f (fun j => ea_V b kk aa bb bt dd WK DA DB DN j e) a)
    (K : Act → World → Prop) (hK : Hid (∀ v e' w', v = ea_V b kk aa bb bt dd WK DA DB DN 19 e' → (∀ j, f j = true → ea_V b kk aa bb bt dd WK DA DB DN j e' = ea_V b kk aa bb bt dd WK DA DB DN j e) → ea_J w1 b kk aa bb bt dd WK DA DB DN (fun j => j == 19 || f j) e' w' → K (a.put ea_o19.dst v) w')) :
    if Region.wanted ea_o19 (yielded ea_O a.tmps) = true then Oper.wp Tryd.prog ea_o19 a w K Q else K (a.put ea_o19.dst undef) w := by
  unfold ea_o19 at hdep hK ⊢
  obtain ⟨hg, j4, jd⟩ := hJ
  have k18 : f 18 = true := hdep { on := 18, ground := .data } (by simp) rfl
  have v31 : a.tmps.getD 31 undef = .string (WK ++ ⟨#[32]⟩ ++ DA ++ ⟨#[32]⟩ ++ DB ++ ⟨#[32]⟩ ++ DN) := hFr.new 18 31 rfl k18
  replace hg := hid hg
  replace j4 := hid j4
  replace jd := hid jd
  clear hdep hFr h1
  go_simp
  exact hK.out _ e _ rfl (fun _ _ => rfl) ⟨hg.out, j4.out, jd.out⟩
set_option maxRecDepth 100000 in
set_option maxHeartbeats 4000000 in
theorem ea_reg (A : Act) (w1 : World) (Q : Exit → Act → World → Prop) (b kk aa bb bt : Nat) (dd : Bool) (WK DA DB DN : ByteArray) 
    (h1 : A.tmps.getD 1 undef = .pointer (some ⟨b, 0, none⟩)) (h3 : A.tmps.getD 3 undef = .string WK) (qb : Blk w1 b (acA kk aa bb dd)) (hb2 : bt < 2) (hW : udA[bt]? = some (.string DN)) (hs : WK.size ≤ 100 ∧ DA.size ≤ 100 ∧ DB.size ≤ 100 ∧ DN.size ≤ 100)
    (hIA : Hid (∀ W, Calls Tryd.prog 78 #[.int .i64 (aa : Int)] W fun e w' => e = .returned (.string DA) ∧ Below W.heap.size W w')) (hIB : Hid (∀ W, Calls Tryd.prog 78 #[.int .i64 (bb : Int)] W fun e w' => e = .returned (.string DB) ∧ Below W.heap.size W w'))
    (hBt : Hid (∀ W, Calls Tryd.prog 110 #[.bool dd] W fun e w' => e = .returned (.int .i64 (bt : Int)) ∧ w' = W)) (hN : 32 ≤ A.tmps.size)
    (h : ∀ (w : World) (e : Nat), Below w1.heap.size w1 w → Q .normal (putsA A [(13, .string (WK)), (14, .string (WK ++ ⟨#[32]⟩)), (15, .pointer (some ⟨b, 1, none⟩)), (16, .int .i64 (aa : Int)), (17, .string (DA)), (18, .string (WK ++ ⟨#[32]⟩ ++ DA)), (19, .string (WK ++ ⟨#[32]⟩ ++ DA ++ ⟨#[32]⟩)), (20, .pointer (some ⟨b, 2, none⟩)), (21, .int .i64 (bb : Int)), (22, .string (DB)), (23, .string (WK ++ ⟨#[32]⟩ ++ DA ++ ⟨#[32]⟩ ++ DB)), (24, .string (WK ++ ⟨#[32]⟩ ++ DA ++ ⟨#[32]⟩ ++ DB ++ ⟨#[32]⟩)), (25, .slice (some ⟨e, 0, none⟩) 2 2), (26, .pointer (some ⟨b, 3, none⟩)), (27, .bool dd), (28, .int .i64 (bt : Int)), (29, .pointer (some ⟨e, bt, none⟩)), (30, .string (DN)), (31, .string (WK ++ ⟨#[32]⟩ ++ DA ++ ⟨#[32]⟩ ++ DB ++ ⟨#[32]⟩ ++ DN)), (2, .string (WK ++ ⟨#[32]⟩ ++ DA ++ ⟨#[32]⟩ ++ DB ++ ⟨#[32]⟩ ++ DN))]) w) :
    (Code.region 4 #[({ dst := some 13, op := Op.move (Operand.tmp 3), type := 9, pos := "l15_text.go:94", after := #[], guard := none } : Oper), ({ dst := some 14, op := Op.binOp BinOp.add 9 (Operand.tmp 13) (Operand.const (Value.string { data := #[32] })) 9, type := 9, pos := "l15_text.go:94", after := #[{ on := 0, ground := Ground.data }], guard := none } : Oper), ({ dst := some 15, op := Op.fieldAddr 68 (Operand.tmp 1) 1, type := 0, pos := "l15_text.go:94", after := #[], guard := none } : Oper), ({ dst := some 16, op := Op.load 3 (Operand.tmp 15), type := 3, pos := "l15_text.go:94", after := #[{ on := 2, ground := Ground.data }], guard := none } : Oper), ({ dst := some 17, op := Op.call { callee := Callee.value (Operand.func 78), args := #[Operand.tmp 16], argTypes := #[3] }, type := 9, pos := "l15_text.go:94", after := #[{ on := 3, ground := Ground.data }], guard := none } : Oper), ({ dst := some 18, op := Op.binOp BinOp.add 9 (Operand.tmp 14) (Operand.tmp 17) 9, type := 9, pos := "l15_text.go:94", after := #[{ on := 1, ground := Ground.data }, { on := 4, ground := Ground.data }], guard := none } : Oper), ({ dst := some 19, op := Op.binOp BinOp.add 9 (Operand.tmp 18) (Operand.const (Value.string { data := #[32] })) 9, type := 9, pos := "l15_text.go:94", after := #[{ on := 5, ground := Ground.data }], guard := none } : Oper), ({ dst := some 20, op := Op.fieldAddr 68 (Operand.tmp 1) 2, type := 0, pos := "l15_text.go:94", after := #[], guard := none } : Oper), ({ dst := some 21, op := Op.load 3 (Operand.tmp 20), type := 3, pos := "l15_text.go:94", after := #[{ on := 7, ground := Ground.data }], guard := none } : Oper), ({ dst := some 22, op := Op.call { callee := Callee.value (Operand.func 78), args := #[Operand.tmp 21], argTypes := #[3] }, type := 9, pos := "l15_text.go:94", after := #[{ on := 8, ground := Ground.data }, { on := 4, ground := Ground.chain }], guard := none } : Oper), ({ dst := some 23, op := Op.binOp BinOp.add 9 (Operand.tmp 19) (Operand.tmp 22) 9, type := 9, pos := "l15_text.go:94", after := #[{ on := 6, ground := Ground.data }, { on := 9, ground := Ground.data }], guard := none } : Oper), ({ dst := some 24, op := Op.binOp BinOp.add 9 (Operand.tmp 23) (Operand.const (Value.string { data := #[32] })) 9, type := 9, pos := "l15_text.go:94", after := #[{ on := 10, ground := Ground.data }], guard := none } : Oper), ({ dst := some 25, op := Op.buildSlice 48 2 #[(0, Operand.const (Value.string { data := #[117, 112] })), (1, Operand.const (Value.string { data := #[100, 111, 119, 110] }))], type := 48, pos := "l15_text.go:94", after := #[], guard := none } : Oper), ({ dst := some 26, op := Op.fieldAddr 68 (Operand.tmp 1) 3, type := 0, pos := "l15_text.go:94", after := #[], guard := none } : Oper), ({ dst := some 27, op := Op.load 4 (Operand.tmp 26), type := 4, pos := "l15_text.go:94", after := #[{ on := 13, ground := Ground.data }], guard := none } : Oper), ({ dst := some 28, op := Op.call { callee := Callee.value (Operand.func 110), args := #[Operand.tmp 27], argTypes := #[4] }, type := 3, pos := "l15_text.go:94", after := #[{ on := 14, ground := Ground.data }, { on := 9, ground := Ground.chain }], guard := none } : Oper), ({ dst := some 29, op := Op.indexAddr 48 (Operand.tmp 25) (Operand.tmp 28), type := 0, pos := "l15_text.go:94", after := #[{ on := 12, ground := Ground.data }, { on := 15, ground := Ground.data }], guard := none } : Oper), ({ dst := some 30, op := Op.load 9 (Operand.tmp 29), type := 9, pos := "l15_text.go:94", after := #[{ on := 16, ground := Ground.data }], guard := none } : Oper), ({ dst := some 31, op := Op.binOp BinOp.add 9 (Operand.tmp 24) (Operand.tmp 30) 9, type := 9, pos := "l15_text.go:94", after := #[{ on := 11, ground := Ground.data }, { on := 17, ground := Ground.data }], guard := none } : Oper), ({ dst := some 2, op := Op.assign (Operand.tmp 31), type := 9, pos := "l15_text.go:94", after := #[{ on := 18, ground := Ground.data }, { on := 15, ground := Ground.chain }, { on := 0, ground := Ground.phase }, { on := 1, ground := Ground.phase }, { on := 2, ground := Ground.phase }, { on := 3, ground := Ground.phase }, { on := 4, ground := Ground.phase }, { on := 5, ground := Ground.phase }, { on := 6, ground := Ground.phase }, { on := 7, ground := Ground.phase }, { on := 8, ground := Ground.phase }, { on := 9, ground := Ground.phase }, { on := 10, ground := Ground.phase }, { on := 11, ground := Ground.phase }, { on := 12, ground := Ground.phase }, { on := 13, ground := Ground.phase }, { on := 14, ground := Ground.phase }, { on := 15, ground := Ground.phase }, { on := 16, ground := Ground.phase }, { on := 17, ground := Ground.phase }, { on := 18, ground := Ground.phase }], guard := none } : Oper)] true).wp Tryd.prog Q A w1 := by
  show (Code.region 4 ea_O true).wp Tryd.prog Q A w1
  refine wp_region_slots (E := Nat) (ea_V b kk aa bb bt dd WK DA DB DN) (ea_J w1 b kk aa bb bt dd WK DA DB DN) (by kernel_rfl) (by kernel_rfl) (by kernel_rfl) (fun i s hi => ?_) ?_ 0 ⟨(Below.refl _ _).drew, fun h => (by cases h), fun h => (by cases h)⟩ ?_
  · cases hc : ([13, 14, 15, 16, 17, 18, 19, 20, 21, 22, 23, 24, 25, 26, 27, 28, 29, 30, 31, 2] : List Nat).contains s
    · exact absurd hi (ea_no hc i)
    · have : s ∈ ([13, 14, 15, 16, 17, 18, 19, 20, 21, 22, 23, 24, 25, 26, 27, 28, 29, 30, 31, 2] : List Nat) := by simpa using hc
      simp only [List.mem_cons, List.not_mem_nil, or_false] at this
      omega
  · intro f e a w i o hi ho hun hdep hJ hFr K hK
    have hi8 : i < 20 := hi
    rcases (by omega : i = 0 ∨ i = 1 ∨ i = 2 ∨ i = 3 ∨ i = 4 ∨ i = 5 ∨ i = 6 ∨ i = 7 ∨ i = 8 ∨ i = 9 ∨ i = 10 ∨ i = 11 ∨ i = 12 ∨ i = 13 ∨ i = 14 ∨ i = 15 ∨ i = 16 ∨ i = 17 ∨ i = 18 ∨ i = 19) with rfl | rfl | rfl | rfl | rfl | rfl | rfl | rfl | rfl | rfl | rfl | rfl | rfl | rfl | rfl | rfl | rfl | rfl | rfl | rfl
    · obtain rfl := Option.some.inj ho
      exact ea_s0 A w1 Q b kk aa bb bt dd WK DA DB DN h1 h3 qb hb2 hW hs hIA hIB hBt f e a w hun hdep hJ hFr K hK
    · obtain rfl := Option.some.inj ho
      exact ea_s1 A w1 Q b kk aa bb bt dd WK DA DB DN h1 h3 qb hb2 hW hs hIA hIB hBt f e a w hun hdep hJ hFr K hK
    · obtain rfl := Option.some.inj ho
      exact ea_s2 A w1 Q b kk aa bb bt dd WK DA DB DN h1 h3 qb hb2 hW hs hIA hIB hBt f e a w hun hdep hJ hFr K hK
    · obtain rfl := Option.some.inj ho
      exact ea_s3 A w1 Q b kk aa bb bt dd WK DA DB DN h1 h3 qb hb2 hW hs hIA hIB hBt f e a w hun hdep hJ hFr K hK
    · obtain rfl := Option.some.inj ho
      exact ea_s4 A w1 Q b kk aa bb bt dd WK DA DB DN h1 h3 qb hb2 hW hs hIA hIB hBt f e a w hun hdep hJ hFr K hK
    · obtain rfl := Option.some.inj ho
      exact ea_s5 A w1 Q b kk aa bb bt dd WK DA DB DN h1 h3 qb hb2 hW hs hIA hIB hBt f e a w hun hdep hJ hFr K hK
    · obtain rfl := Option.some.inj ho
      exact ea_s6 A w1 Q b kk aa bb bt dd WK DA DB DN h1 h3 qb hb2 hW hs hIA hIB hBt f e a w hun hdep hJ hFr K hK
    · obtain rfl := Option.some.inj ho
      exact ea_s7 A w1 Q b kk aa bb bt dd WK DA DB DN h1 h3 qb hb2 hW hs hIA hIB hBt f e a w hun hdep hJ hFr K hK
    · obtain rfl := Option.some.inj ho
      exact ea_s8 A w1 Q b kk aa bb bt dd WK DA DB DN h1 h3 qb hb2 hW hs hIA hIB hBt f e a w hun hdep hJ hFr K hK
    · obtain rfl := Option.some.inj ho
      exact ea_s9 A w1 Q b kk aa bb bt dd WK DA DB DN h1 h3 qb hb2 hW hs hIA hIB hBt f e a w hun hdep hJ hFr K hK
    · obtain rfl := Option.some.inj ho
      exact ea_s10 A w1 Q b kk aa bb bt dd WK DA DB DN h1 h3 qb hb2 hW hs hIA hIB hBt f e a w hun hdep hJ hFr K hK
    · obtain rfl := Option.some.inj ho
      exact ea_s11 A w1 Q b kk aa bb bt dd WK DA DB DN h1 h3 qb hb2 hW hs hIA hIB hBt f e a w hun hdep hJ hFr K hK
    · obtain rfl := Option.some.inj ho
      exact ea_s12 A w1 Q b kk aa bb bt dd WK DA DB DN h1 h3 qb hb2 hW hs hIA hIB hBt f e a w hun hdep hJ hFr K hK
    · obtain rfl := Option.some.inj ho
      exact ea_s13 A w1 Q b kk aa bb bt dd WK DA DB DN h1 h3 qb hb2 hW hs hIA hIB hBt f e a w hun hdep hJ hFr K hK
    · obtain rfl := Option.some.inj ho
      exact ea_s14 A w1 Q b kk aa bb bt dd WK DA DB DN h1 h3 qb hb2 hW hs hIA hIB hBt f e a w hun hdep hJ hFr K hK
    · obtain rfl := Option.some.inj ho
      exact ea_s15 A w1 Q b kk aa bb bt dd WK DA DB DN h1 h3 qb hb2 hW hs hIA hIB hBt f e a w hun hdep hJ hFr K hK
    · obtain rfl := Option.some.inj ho
      exact ea_s16 A w1 Q b kk aa bb bt dd WK DA DB DN h1 h3 qb hb2 hW hs hIA hIB hBt f e a w hun hdep hJ hFr K hK
    · obtain rfl := Option.some.inj ho
      exact ea_s17 A w1 Q b kk aa bb bt dd WK DA DB DN h1 h3 qb hb2 hW hs hIA hIB hBt f e a w hun hdep hJ hFr K hK
    · obtain rfl := Option.some.inj ho
      exact ea_s18 A w1 Q b kk aa bb bt dd WK DA DB DN h1 h3 qb hb2 hW hs hIA hIB hBt f e a w hun hdep hJ hFr K hK
    · obtain rfl := Option.some.inj ho
      exact ea_s19 A w1 Q b kk aa bb bt dd WK DA DB DN h1 h3 qb hb2 hW hs hIA hIB hBt f e a w hun hdep hJ hFr K hK
  · intro f e a w hall hJ hFr
    have := h w e hJ.1
    rw [hFr.eq [(13, .string (WK)), (14, .string (WK ++ ⟨#[32]⟩)), (15, .pointer (some ⟨b, 1, none⟩)), (16, .int .i64 (aa : Int)), (17, .string (DA)), (18, .string (WK ++ ⟨#[32]⟩ ++ DA)), (19, .string (WK ++ ⟨#[32]⟩ ++ DA ++ ⟨#[32]⟩)), (20, .pointer (some ⟨b, 2, none⟩)), (21, .int .i64 (bb : Int)), (22, .string (DB)), (23, .string (WK ++ ⟨#[32]⟩ ++ DA ++ ⟨#[32]⟩ ++ DB)), (24, .string (WK ++ ⟨#[32]⟩ ++ DA ++ ⟨#[32]⟩ ++ DB ++ ⟨#[32]⟩)), (25, .slice (some ⟨e, 0, none⟩) 2 2), (26, .pointer (some ⟨b, 3, none⟩)), (27, .bool dd), (28, .int .i64 (bt : Int)), (29, .pointer (some ⟨e, bt, none⟩)), (30, .string (DN)), (31, .string (WK ++ ⟨#[32]⟩ ++ DA ++ ⟨#[32]⟩ ++ DB ++ ⟨#[32]⟩ ++ DN)), (2, .string (WK ++ ⟨#[32]⟩ ++ DA ++ ⟨#[32]⟩ ++ DB ++ ⟨#[32]⟩ ++ DN))] (fun s hs => ?_) (fun i s hi => ?_)]
    · exact this
    · have hne : ∀ k ∈ ([13, 14, 15, 16, 17, 18, 19, 20, 21, 22, 23, 24, 25, 26, 27, 28, 29, 30, 31, 2] : List Nat), k ≠ s := by
        intro k hk e2
        subst e2
        simp only [List.mem_cons, List.not_mem_nil, or_false] at hk
        rcases hk with rfl | rfl | rfl | rfl | rfl | rfl | rfl | rfl | rfl | rfl | rfl | rfl | rfl | rfl | rfl | rfl | rfl | rfl | rfl | rfl
        · exact hs 0 rfl
        · exact hs 1 rfl
        · exact hs 2 rfl
        · exact hs 3 rfl
        · exact hs 4 rfl
        · exact hs 5 rfl
        · exact hs 6 rfl
        · exact hs 7 rfl
        · exact hs 8 rfl
        · exact hs 9 rfl
        · exact hs 10 rfl
        · exact hs 11 rfl
        · exact hs 12 rfl
        · exact hs 13 rfl
        · exact hs 14 rfl
        · exact hs 15 rfl
        · exact hs 16 rfl
        · exact hs 17 rfl
        · exact hs 18 rfl
        · exact hs 19 rfl
      simp only [lookA]
      simp [hne]
    · have hl : i < 20 := by
        rcases Nat.lt_or_ge i 20 with h1 | h1
        · exact h1
        · unfold dstAt at hi
          rw [Array.getElem?_eq_none (by exact h1)] at hi
          cases hi
      refine ⟨hall i hl, ?_⟩
      rcases (by omega : i = 0 ∨ i = 1 ∨ i = 2 ∨ i = 3 ∨ i = 4 ∨ i = 5 ∨ i = 6 ∨ i = 7 ∨ i = 8 ∨ i = 9 ∨ i = 10 ∨ i = 11 ∨ i = 12 ∨ i = 13 ∨ i = 14 ∨ i = 15 ∨ i = 16 ∨ i = 17 ∨ i = 18 ∨ i = 19) with rfl | rfl | rfl | rfl | rfl | rfl | rfl | rfl | rfl | rfl | rfl | rfl | rfl | rfl | rfl | rfl | rfl | rfl | rfl | rfl
      all_goals first
        | (cases hi; rfl)
        | cases hi
set_option maxRecDepth 100000 in
set_option maxHeartbeats 1000000 in
theorem act0_spec (K A B : Nat) (d : Bool) (w : World) (hK : K < 9) (hA : A < 1000) (hB : B < 1000) : Calls Tryd.prog 60 #[acV K A B d] w fun e w' => e = .returned (.string (actB K A B d)) ∧ Below w.heap.size w w' := by
  have hb0 := hid ((Below.refl w.heap.size w).alloc (Nat.le_refl _) (.cells (acA K A B d) 68))
  have hq0 := hid (Blk.new w (acA K A B d) 68)
  have hsA := digB_size A (Nat.lt_of_lt_of_le hA (by decide))
  have hsB := digB_size B (Nat.lt_of_lt_of_le hB (by decide))
  have hsD := (downB_facts d).1
  have hsW : (acW K).size ≤ 6 := by
    have : ∀ k, k < 9 → (acW k).size ≤ 6 := by decide +kernel
    exact this K hK
  have hIA := hid (fun W => digits_spec A W (by omega))
  have hIB := hid (fun W => digits_spec B W (by omega))
  have hBt := hid (fun W => bitX_spec d W)
  have hW := udA_at d
  have hbt : btX d < 2 := by cases d <;> decide
  have k0 : (0 : Int) ≤ (K : Int) := by omega
  have k9 : (K : Int) < 9 := by omega
  have hE1 : Hid (K = 1 → acW K ++ ⟨#[32]⟩ ++ digB A ++ ⟨#[32]⟩ ++ digB B ++ ⟨#[32]⟩ ++ downB d = actB K A B d) := fun h => by unfold actB; rw [if_pos h]; rfl
  have hE2 : Hid (K = 2 ∨ K = 6 → acW K ++ ⟨#[32]⟩ ++ digB A = actB K A B d) := fun h => by
    unfold actB
    rcases h with rfl | rfl <;> rfl
  have hE3 : Hid (K ≠ 1 → K ≠ 2 → K ≠ 6 → acW K = actB K A B d) := fun h1 h2 h3 => by unfold actB; rw [if_neg h1, if_neg h2, if_neg h3]
  generalize actB K A B d = R at *
  obtain ⟨WK, hWK⟩ : ∃ x, acW K = x := ⟨_, rfl⟩
  rw [hWK] at hsW hE1 hE2 hE3
  replace hWK := hid hWK
  generalize digB A = DA at *
  generalize digB B = DB at *
  generalize downB d = DN at *
  generalize btX d = bt at *
  have hKd : Hid ((K = 1 ∨ K = 2 ∨ K = 6) ∨ (K ≠ 1 ∧ K ≠ 2 ∧ K ≠ 6)) := by show _ ∨ _; omega
  go_enter Tryd.func60, Tryd.ntmps60
  go_upto_region 1 with fail
  go_cut [3] (fun v wx => v = .string WK ∧ Blk wx w.heap.size (acA K A B d) ∧ Below w.heap.size w wx)
  case first =>
    have x0 := hq0.out.cell
    have z0 := hq0.out.lt
    have hqd : Hid (Blk (w.alloc (.cells (acA K A B d) 68)).drew w.heap.size (acA K A B d)) := hq0.out
    have hbd := hid hb0.out.drew
    go_region_with (go_at_call 109; refine (acwords_spec _).mono ?_; rintro e w1 ⟨⟨g, rfl, hc⟩, hb⟩; have y1 := hc K hK; rw [hWK.out] at y1; have q1 := hid (hqd.out.below hb hqd.out.lt); have x1 := q1.out.cell; have b1 := hid (new_trans hbd.out hb); clear hc hb)
    all_goals
      go_wp2_with fail
      go_meet
      exact ⟨rfl, q1.out, b1.out⟩
  case rest =>
    obtain ⟨rfl, hq1, hb1⟩ := hcut
    replace hq1 := hid hq1
    replace hb1 := hid hb1
    clear hq0 hb0
    have x1 := hq1.out.cell
    rcases hKd.out with h | ⟨n1, n2, n6⟩
    · rcases h with rfl | rfl | rfl
      · clear hE2 hE3
        go_upto_region 4 with fail
        clear x1
        refine ea_reg _ _ _ w.heap.size 1 A B bt d WK DA DB DN rfl rfl hq1.out hbt hW ⟨by omega, by omega, by omega, by omega⟩ hIA hIB hBt (by simp) ?_
        intro W e hb
        have hb2 := hid (new_trans hb1.out hb)
        clear hb hb1 hq1 hIA hIB hBt hW
        simp only [putsA, Act.put, List.setIfInBounds_toArray, List.set_cons_zero, List.set_cons_succ]
        go_wp2
        go_ret
        exact ⟨ret_str (hE1.out trivial), hb2.out⟩
      all_goals
        have z1 : ¬ 9223372036854775807 < WK.size + 1 := by omega
        have z2 : ¬ 9223372036854775807 < WK.size + 1 + DA.size := by omega
        clear hE1 hE3
        go_wp2_with fail
        refine (hIA.out _).mono ?_
        rintro e w2 ⟨rfl, hb⟩
        have hb2 := hid (new_trans hb1.out hb)
        clear hb hb1 hq1 x1
        go_wp2
        go_ret
        exact ⟨ret_str (hE2.out (by first | exact .inl rfl | exact .inr rfl | exact .inl trivial | exact .inr trivial | trivial | simp)), hb2.out⟩
    · have hE4 := hid (hE3.out n1 n2 n6)
      have t1 : ((K : Int) == 1) = false := by rw [beq_eq_false_iff_ne]; omega
      have t2 : ((K : Int) == 2) = false := by rw [beq_eq_false_iff_ne]; omega
      have t6 : ((K : Int) == 6) = false := by rw [beq_eq_false_iff_ne]; omega
      clear hE1 hE2 hE3
      go_wp2
      go_ret
      exact ⟨ret_str hE4.out, hb1.out⟩
set_option maxRecDepth 100000 in
theorem act_spec (k a b : Int) (d : Bool) (w : World) : Calls Tryd.prog 20 #[acV k a b d] w fun e w' => e = .returned (act2 k a b d) ∧ Below w.heap.size w w' := by
  have hb0 := hid ((Below.refl w.heap.size w).alloc (Nat.le_refl _) (.cells (acA k a b d) 68))
  have hq0 := hid (Blk.new w (acA k a b d) 68)
  cases hok : okAc k a b d
  · have e : act2 k a b d = .tuple #[.string ⟨#[]⟩, .int .i64 1] := by unfold act2; rw [hok]; rfl
    rw [e]
    clear e
    go_enter Tryd.func20, Tryd.ntmps20
    go_wp2_with fail
    refine (actok_spec _ _ _ _ _).mono ?_
    rintro e w1 ⟨rfl, hb⟩
    rw [hok]
    have hb1 := hid (new_trans hb0.out hb)
    clear hb hb0 hq0
    go_wp2
    go_ret2
    exact ⟨rfl, hb1.out⟩
  obtain ⟨b0, b1, b2, b3, b4, b5⟩ := okAc_bd hok
  obtain ⟨K, rfl⟩ : ∃ X : Nat, k = (X : Int) := ⟨k.toNat, by omega⟩
  obtain ⟨A, rfl⟩ : ∃ X : Nat, a = (X : Int) := ⟨a.toNat, by omega⟩
  obtain ⟨B, rfl⟩ : ∃ X : Nat, b = (X : Int) := ⟨b.toNat, by omega⟩
  have e : act2 K A B d = .tuple #[.string (actB K A B d), .int .i64 0] := by unfold act2; rw [hok, if_pos rfl]; rfl
  rw [e]
  clear e
  go_enter Tryd.func20, Tryd.ntmps20
  go_wp2_with fail
  refine (actok_spec _ _ _ _ _).mono ?_
  rintro e w1 ⟨rfl, hb⟩
  rw [hok]
  have hb1 := hid (new_trans hb0.out hb)
  have hq1 := hid (hq0.out.below hb hq0.out.lt)
  clear hb hb0 hq0
  have x1 := hq1.out.cell
  go_wp2_with fail
  refine (act0_spec K A B d _ (by omega) (by omega) (by omega)).mono ?_
  rintro e w2 ⟨rfl, hb⟩
  have hb2 := hid (new_trans hb1.out hb)
  clear hb hb1 hq1 x1
  go_wp2
  go_ret2
  exact ⟨rfl, hb2.out⟩
end Go.Proofs.YtneagomkohoceabDoor
