/- The drawn statement by which a sound chip is drawn: a register is written, whatever the order. -/
import Derived.Test.YtjdgfbaioafjcaaDoorYu
import Derived.Test.YtjdgfbaioafjcaaDoorIw
namespace Go.Proofs.YtjdgfbaioafjcaaDoor
open Go.ChangeShapes Go.WideShapes Go.ChangeAt Go.RowKit
set_option linter.unusedVariables false
set_option linter.unusedSimpArgs false

structure DrE where
  a1 : Nat
  a2 : Nat
  a3 : Nat
  g : Nat
def DrE.x (e : DrE) : Nat := if e.a3 = 0 then e.a1 else e.a2
def dr_V (d : Sg) (p : Nat) : Nat → DrE → Value := fun i e => match i with
  | 0 => sgV d
  | 1 => .pointer (some ⟨p, 0, none⟩)
  | 2 => .int .i64 (e.a1 : Int)
  | 3 => .pointer (some ⟨p, 0, none⟩)
  | 4 => .int .i64 (e.a2 : Int)
  | 5 => .slice (some ⟨e.g, 0, none⟩) 2 2
  | 6 => .pointer (some ⟨p, 0, none⟩)
  | 7 => .int .i64 (e.a3 : Int)
  | 8 => .pointer (some ⟨e.g, e.a3, none⟩)
  | 9 => .int .i64 (e.x : Int)
  | 10 => sgV (d.write e.x)
  | _ => undef
/-- what has been done before what -/
def drD (f : Nat → Bool) : Prop := (f 5 = true → f 2 = true ∧ f 4 = true) ∧ (f 8 = true → f 5 = true ∧ f 7 = true) ∧ (f 9 = true → f 8 = true) ∧ (f 10 = true → f 9 = true ∧ f 0 = true) ∧ (f 11 = true → f 10 = true)
def dr_J (w0 : World) (d : Sg) (p : Nat) (a : Option Addr) (len cap n bm : Nat) (f : Nat → Bool) (e : DrE) (w : World) : Prop :=
  (∃ nn, nn ≤ n + 3 * (btN (f 2) + btN (f 4) + btN (f 7)) ∧ QSg w0 w p a len cap nn bm (bif f 11 then sgA (d.write e.x) else sgA d)) ∧ (e.a1 < 256 ∧ e.a2 < 256 ∧ e.a3 < 2) ∧ (f 5 = true → Blk w e.g #[.int .i64 (e.a1 : Int), .int .i64 (e.a2 : Int)] ∧ w0.heap.size < e.g ∧ e.g ≠ bm) ∧ drD f
def dr_o0 : Oper := ({ dst := some 15, op := Op.load 27 (Operand.tmp 3), type := 27, pos := "l08_psg.go:158", after := #[], guard := none } : Oper)
def dr_o1 : Oper := ({ dst := some 16, op := Op.move (Operand.tmp 0), type := 43, pos := "l08_psg.go:158", after := #[], guard := none } : Oper)
def dr_o2 : Oper := ({ dst := some 17, op := Op.call { callee := Callee.value (Operand.func 46), args := #[Operand.tmp 16, Operand.const (Value.int IntKind.i64 256)], argTypes := #[43, 3] }, type := 3, pos := "l08_psg.go:158", after := #[{ on := 1, ground := Ground.data }], guard := none } : Oper)
def dr_o3 : Oper := ({ dst := some 18, op := Op.move (Operand.tmp 0), type := 43, pos := "l08_psg.go:158", after := #[], guard := none } : Oper)
def dr_o4 : Oper := ({ dst := some 19, op := Op.call { callee := Callee.value (Operand.func 46), args := #[Operand.tmp 18, Operand.const (Value.int IntKind.i64 6)], argTypes := #[43, 3] }, type := 3, pos := "l08_psg.go:158", after := #[{ on := 3, ground := Ground.data }, { on := 2, ground := Ground.chain }], guard := none } : Oper)
def dr_o5 : Oper := ({ dst := some 20, op := Op.buildSlice 65 2 #[(0, Operand.tmp 17), (1, Operand.tmp 19)], type := 65, pos := "l08_psg.go:158", after := #[{ on := 2, ground := Ground.data }, { on := 4, ground := Ground.data }], guard := none } : Oper)
def dr_o6 : Oper := ({ dst := some 21, op := Op.move (Operand.tmp 0), type := 43, pos := "l08_psg.go:158", after := #[], guard := none } : Oper)
def dr_o7 : Oper := ({ dst := some 22, op := Op.call { callee := Callee.value (Operand.func 46), args := #[Operand.tmp 21, Operand.const (Value.int IntKind.i64 2)], argTypes := #[43, 3] }, type := 3, pos := "l08_psg.go:158", after := #[{ on := 6, ground := Ground.data }, { on := 4, ground := Ground.chain }], guard := none } : Oper)
def dr_o8 : Oper := ({ dst := some 23, op := Op.indexAddr 65 (Operand.tmp 20) (Operand.tmp 22), type := 0, pos := "l08_psg.go:158", after := #[{ on := 5, ground := Ground.data }, { on := 7, ground := Ground.data }], guard := none } : Oper)
def dr_o9 : Oper := ({ dst := some 24, op := Op.load 3 (Operand.tmp 23), type := 3, pos := "l08_psg.go:158", after := #[{ on := 8, ground := Ground.data }], guard := none } : Oper)
def dr_o10 : Oper := ({ dst := some 25, op := Op.call { callee := Callee.value (Operand.func 30), args := #[Operand.tmp 15, Operand.tmp 24], argTypes := #[27, 3] }, type := 27, pos := "l08_psg.go:158", after := #[{ on := 0, ground := Ground.data }, { on := 9, ground := Ground.data }, { on := 7, ground := Ground.chain }], guard := none } : Oper)
def dr_o11 : Oper := ({ dst := none, op := Op.store 27 (Operand.tmp 3) (Operand.tmp 25), type := 0, pos := "l08_psg.go:158", after := #[{ on := 10, ground := Ground.data }, { on := 10, ground := Ground.chain }, { on := 0, ground := Ground.phase }, { on := 1, ground := Ground.phase }, { on := 2, ground := Ground.phase }, { on := 3, ground := Ground.phase }, { on := 4, ground := Ground.phase }, { on := 5, ground := Ground.phase }, { on := 6, ground := Ground.phase }, { on := 7, ground := Ground.phase }, { on := 8, ground := Ground.phase }, { on := 9, ground := Ground.phase }, { on := 10, ground := Ground.phase }], guard := none } : Oper)
def dr_O : Array Oper := #[dr_o0, dr_o1, dr_o2, dr_o3, dr_o4, dr_o5, dr_o6, dr_o7, dr_o8, dr_o9, dr_o10, dr_o11]
theorem dr_no {s : Nat} (h : ([15, 16, 17, 18, 19, 20, 21, 22, 23, 24, 25] : List Nat).contains s = false) : ∀ i, dstAt dr_O i ≠ some s := by
  intro i hi
  have hl : i < 12 := by
    rcases Nat.lt_or_ge i 12 with h1 | h1
    · exact h1
    · unfold dstAt at hi
      rw [Array.getElem?_eq_none (by exact h1)] at hi
      cases hi
  rcases (by omega : i = 0 ∨ i = 1 ∨ i = 2 ∨ i = 3 ∨ i = 4 ∨ i = 5 ∨ i = 6 ∨ i = 7 ∨ i = 8 ∨ i = 9 ∨ i = 10 ∨ i = 11) with rfl | rfl | rfl | rfl | rfl | rfl | rfl | rfl | rfl | rfl | rfl | rfl
  all_goals first
    | (cases hi; simp at h)
    | cases hi
theorem drD.no {f : Nat → Bool} (h : drD f) {k : Nat} (hk : f k = false) : (k = 2 ∨ k = 4 → f 5 = false ∧ f 8 = false ∧ f 9 = false ∧ f 10 = false ∧ f 11 = false) ∧ (k = 5 ∨ k = 7 → f 8 = false ∧ f 9 = false ∧ f 10 = false ∧ f 11 = false) ∧ (k = 0 → f 10 = false ∧ f 11 = false) := by
  obtain ⟨h5, h8, h9, h10, h11⟩ := h
  refine ⟨fun hh => ?_, fun hh => ?_, fun hh => ?_⟩
  · have a5 : f 5 = false := by
      cases h : f 5
      · rfl
      · have := h5 h
        rcases hh with rfl | rfl <;> simp_all
    have a8 : f 8 = false := by
      cases h : f 8
      · rfl
      · have := (h8 h).1; simp_all
    have a9 : f 9 = false := by
      cases h : f 9
      · rfl
      · have := h9 h; simp_all
    have a10 : f 10 = false := by
      cases h : f 10
      · rfl
      · have := (h10 h).1; simp_all
    have a11 : f 11 = false := by
      cases h : f 11
      · rfl
      · have := h11 h; simp_all
    exact ⟨a5, a8, a9, a10, a11⟩
  · have a8 : f 8 = false := by
      cases h : f 8
      · rfl
      · have := h8 h
        rcases hh with rfl | rfl <;> simp_all
    have a9 : f 9 = false := by
      cases h : f 9
      · rfl
      · have := h9 h; simp_all
    have a10 : f 10 = false := by
      cases h : f 10
      · rfl
      · have := (h10 h).1; simp_all
    have a11 : f 11 = false := by
      cases h : f 11
      · rfl
      · have := h11 h; simp_all
    exact ⟨a8, a9, a10, a11⟩
  · subst hh
    have a10 : f 10 = false := by
      cases h : f 10
      · rfl
      · have := (h10 h).2; simp_all
    have a11 : f 11 = false := by
      cases h : f 11
      · rfl
      · have := h11 h; simp_all
    exact ⟨a10, a11⟩
/-- the values of what has been done stay -/
theorem dr_keep (d : Sg) (p : Nat) {f : Nat → Bool} (e e' : DrE) (h2 : f 2 = true → e'.a1 = e.a1) (h4 : f 4 = true → e'.a2 = e.a2) (h5 : f 5 = true → e'.g = e.g) (h7 : f 7 = true → e'.a3 = e.a3) (h8 : f 8 = true → e'.g = e.g ∧ e'.a3 = e.a3) (h9 : f 9 = true → e'.x = e.x) (h10 : f 10 = true → e'.x = e.x) : ∀ j, f j = true → dr_V d p j e' = dr_V d p j e := by
  intro j hj
  unfold dr_V
  split
  · rfl
  · rfl
  · rw [h2 hj]
  · rfl
  · rw [h4 hj]
  · rw [h5 hj]
  · rfl
  · rw [h7 hj]
  · rw [(h8 hj).1, (h8 hj).2]
  · rw [h9 hj]
  · rw [h10 hj]
  · rfl
set_option maxRecDepth 100000 in
set_option maxHeartbeats 2000000 in
theorem dr_s0 (A : Act) (w1 w0 : World) (Q : Exit → Act → World → Prop) (d : Sg) (p : Nat) (a0 : Option Addr) (len cap n bm : Nat)
    (hp : A.tmps.getD 0 undef = .pointer (some ⟨p, 0, none⟩)) (hm : A.tmps.getD 3 undef = .pointer (some ⟨bm, 0, none⟩)) (hok : okS d = true) (hn : n ≤ 100000)
    (f : Nat → Bool) (e : DrE) (a : Act) (w : World) (hun : f 0 = false) (hdep : ∀ d ∈ dr_o0.after, Region.binds .any d = true → f d.on = true) (hJ : dr_J w0 d p a0 len cap n bm f e w) (hFr : Fr dr_O A f (fun j => dr_V d p j e) a)
    (K : Act → World → Prop) (hK : Hid (∀ v e' w', v = dr_V d p 0 e' → (∀ j, f j = true → dr_V d p j e' = dr_V d p j e) → dr_J w0 d p a0 len cap n bm (fun j => j == 0 || f j) e' w' → K (a.put dr_o0.dst v) w')) :
    if Region.wanted dr_o0 (yielded dr_O a.tmps) = true then Oper.wp Tryd.prog dr_o0 a w K Q else K (a.put dr_o0.dst undef) w := by
  unfold dr_o0 at hdep hK ⊢
  obtain ⟨⟨nn, hnn, hS⟩, hab, hsl, hD⟩ := hJ
  have hbt : ∀ b, btN b ≤ 1 := fun b => by cases b <;> decide
  have v3 := (hFr.old 3 (dr_no (by decide))).trans hm
  have hz := (hD.no hun).2.2 rfl
  have hS2 : QSg w0 w p a0 len cap nn bm (sgA d) := by
    have := hS
    rw [hz.2] at this
    exact this
  rw [if_pos (by rfl)]
  refine wp_load_mid 27 _ rfl bm 0 v3 (sgA d).toList _ (sg_range hS2.qm) Tryd.underlying27 rfl (sg_size d) ?_
  exact hK.out _ e _ rfl (fun _ _ => rfl) ⟨⟨nn, hnn, hS⟩, hab, hsl, ⟨hD.1, hD.2.1, hD.2.2.1, fun h => ⟨(hD.2.2.2.1 h).1, rfl⟩, hD.2.2.2.2⟩⟩
set_option maxRecDepth 100000 in
set_option maxHeartbeats 2000000 in
theorem dr_s1 (A : Act) (w1 w0 : World) (Q : Exit → Act → World → Prop) (d : Sg) (p : Nat) (a0 : Option Addr) (len cap n bm : Nat)
    (hp : A.tmps.getD 0 undef = .pointer (some ⟨p, 0, none⟩)) (hm : A.tmps.getD 3 undef = .pointer (some ⟨bm, 0, none⟩)) (hok : okS d = true) (hn : n ≤ 100000)
    (f : Nat → Bool) (e : DrE) (a : Act) (w : World) (hun : f 1 = false) (hdep : ∀ d ∈ dr_o1.after, Region.binds .any d = true → f d.on = true) (hJ : dr_J w0 d p a0 len cap n bm f e w) (hFr : Fr dr_O A f (fun j => dr_V d p j e) a)
    (K : Act → World → Prop) (hK : Hid (∀ v e' w', v = dr_V d p 1 e' → (∀ j, f j = true → dr_V d p j e' = dr_V d p j e) → dr_J w0 d p a0 len cap n bm (fun j => j == 1 || f j) e' w' → K (a.put dr_o1.dst v) w')) :
    if Region.wanted dr_o1 (yielded dr_O a.tmps) = true then Oper.wp Tryd.prog dr_o1 a w K Q else K (a.put dr_o1.dst undef) w := by
  unfold dr_o1 at hdep hK ⊢
  have v0 := (hFr.old 0 (dr_no (by decide))).trans hp
  replace hJ := hid hJ
  clear hdep hFr hp hm
  go_simp
  exact hK.out _ e _ rfl (fun _ _ => rfl) hJ.out
set_option maxRecDepth 100000 in
set_option maxHeartbeats 2000000 in
theorem dr_s2 (A : Act) (w1 w0 : World) (Q : Exit → Act → World → Prop) (d : Sg) (p : Nat) (a0 : Option Addr) (len cap n bm : Nat)
    (hp : A.tmps.getD 0 undef = .pointer (some ⟨p, 0, none⟩)) (hm : A.tmps.getD 3 undef = .pointer (some ⟨bm, 0, none⟩)) (hok : okS d = true) (hn : n ≤ 100000)
    (f : Nat → Bool) (e : DrE) (a : Act) (w : World) (hun : f 2 = false) (hdep : ∀ d ∈ dr_o2.after, Region.binds .any d = true → f d.on = true) (hJ : dr_J w0 d p a0 len cap n bm f e w) (hFr : Fr dr_O A f (fun j => dr_V d p j e) a)
    (K : Act → World → Prop) (hK : Hid (∀ v e' w', v = dr_V d p 2 e' → (∀ j, f j = true → dr_V d p j e' = dr_V d p j e) → dr_J w0 d p a0 len cap n bm (fun j => j == 2 || f j) e' w' → K (a.put dr_o2.dst v) w')) :
    if Region.wanted dr_o2 (yielded dr_O a.tmps) = true then Oper.wp Tryd.prog dr_o2 a w K Q else K (a.put dr_o2.dst undef) w := by
  unfold dr_o2 at hdep hK ⊢
  obtain ⟨⟨nn, hnn, hS⟩, hab, hsl, hD⟩ := hJ
  have hbt : ∀ b, btN b ≤ 1 := fun b => by cases b <;> decide
  have k1 : f 1 = true := hdep { on := 1, ground := .data } (by simp) rfl
  have v16 : a.tmps.getD 16 undef = .pointer (some ⟨p, 0, none⟩) := hFr.new 1 16 rfl k1
  have hz := (hD.no hun).1 (by omega)
  obtain ⟨z5, z8, z9, z10, z11⟩ := hz
  rw [hun] at hnn
  have hb2 := hbt (f 2)
  have hb4 := hbt (f 4)
  have hb7 := hbt (f 7)
  have hf0 : btN false = 0 := rfl
  have hf1 : btN true = 1 := rfl
  have hN : Hid (∀ W, QSg w0 W p a0 len cap nn bm (bif f 11 then sgA (d.write e.x) else sgA d) → Calls Tryd.prog 46 #[.pointer (some ⟨p, 0, none⟩), .int .i64 256] W fun r w' => ∃ v : Int, r = .returned (.int .i64 v) ∧ 0 ≤ v ∧ v < 256 ∧ (∃ n', n' ≤ nn + 3 ∧ QSg w0 w' p a0 len cap n' bm (bif f 11 then sgA (d.write e.x) else sgA d)) ∧ W.grownBy w' (some p)) := fun W hQ => by
    refine (next_any p a0 len cap nn 256 _ hQ.src (by omega)).mono ?_
    rintro r w' ⟨⟨v, rfl, g0, _, g1⟩, ⟨n', hn', hs'⟩, hg⟩
    exact ⟨v, rfl, g0, g1 (by omega), ⟨n', hn', hQ.next hg hs'⟩, hg⟩
  replace hnn := hid hnn
  replace hsl := hid hsl
  replace hD := hid hD
  replace hS := hid hS
  replace hab := hid hab
  clear hdep hFr hp hm
  go_simp
  go_at_call 46
  refine (hN.out _ hS.out).mono ?_
  rintro r w' ⟨v, rfl, g0, g1, ⟨n', hn', hS'⟩, hg⟩
  obtain ⟨vn, rfl⟩ : ∃ vn : Nat, v = vn := ⟨v.toNat, by omega⟩
  replace hn' := hid hn'
  replace hS' := hid hS'
  replace hg := hid hg
  go_simp
  have hnn := hnn.out
  have hn' := hn'.out
  have hsl := hsl.out
  have hD := hD.out
  have hS := hS.out
  have hS' := hS'.out
  have hg := hg.out
  have hab := hab.out
  exact hK.out _ ⟨vn, e.a2, e.a3, e.g⟩ _ rfl (dr_keep d p e ⟨vn, e.a2, e.a3, e.g⟩ (fun h => by rw [hun] at h; cases h) (fun _ => rfl) (fun _ => rfl) (fun _ => rfl) (fun h => by rw [z8] at h; cases h) (fun h => by rw [z9] at h; cases h) (fun h => by rw [z10] at h; cases h)) ⟨⟨n', (by show n' ≤ n + 3 * (btN true + btN (f 4) + btN (f 7)); omega), (by show QSg w0 w' p a0 len cap n' bm (bif f 11 then _ else sgA d); rw [z11] at hS' ⊢; exact hS')⟩, ⟨by show vn < 256; omega, hab.2.1, hab.2.2⟩, fun h => (by rw [show f 5 = true from h] at z5; cases z5), ⟨fun h => ⟨rfl, (hD.1 h).2⟩, hD.2⟩⟩
set_option maxRecDepth 100000 in
set_option maxHeartbeats 2000000 in
theorem dr_s3 (A : Act) (w1 w0 : World) (Q : Exit → Act → World → Prop) (d : Sg) (p : Nat) (a0 : Option Addr) (len cap n bm : Nat)
    (hp : A.tmps.getD 0 undef = .pointer (some ⟨p, 0, none⟩)) (hm : A.tmps.getD 3 undef = .pointer (some ⟨bm, 0, none⟩)) (hok : okS d = true) (hn : n ≤ 100000)
    (f : Nat → Bool) (e : DrE) (a : Act) (w : World) (hun : f 3 = false) (hdep : ∀ d ∈ dr_o3.after, Region.binds .any d = true → f d.on = true) (hJ : dr_J w0 d p a0 len cap n bm f e w) (hFr : Fr dr_O A f (fun j => dr_V d p j e) a)
    (K : Act → World → Prop) (hK : Hid (∀ v e' w', v = dr_V d p 3 e' → (∀ j, f j = true → dr_V d p j e' = dr_V d p j e) → dr_J w0 d p a0 len cap n bm (fun j => j == 3 || f j) e' w' → K (a.put dr_o3.dst v) w')) :
    if Region.wanted dr_o3 (yielded dr_O a.tmps) = true then Oper.wp Tryd.prog dr_o3 a w K Q else K (a.put dr_o3.dst undef) w := by
  unfold dr_o3 at hdep hK ⊢
  have v0 := (hFr.old 0 (dr_no (by decide))).trans hp
  replace hJ := hid hJ
  clear hdep hFr hp hm
  go_simp
  exact hK.out _ e _ rfl (fun _ _ => rfl) hJ.out
set_option maxRecDepth 100000 in
set_option maxHeartbeats 2000000 in
theorem dr_s4 (A : Act) (w1 w0 : World) (Q : Exit → Act → World → Prop) (d : Sg) (p : Nat) (a0 : Option Addr) (len cap n bm : Nat)
    (hp : A.tmps.getD 0 undef = .pointer (some ⟨p, 0, none⟩)) (hm : A.tmps.getD 3 undef = .pointer (some ⟨bm, 0, none⟩)) (hok : okS d = true) (hn : n ≤ 100000)
    (f : Nat → Bool) (e : DrE) (a : Act) (w : World) (hun : f 4 = false) (hdep : ∀ d ∈ dr_o4.after, Region.binds .any d = true → f d.on = true) (hJ : dr_J w0 d p a0 len cap n bm f e w) (hFr : Fr dr_O A f (fun j => dr_V d p j e) a)
    (K : Act → World → Prop) (hK : Hid (∀ v e' w', v = dr_V d p 4 e' → (∀ j, f j = true → dr_V d p j e' = dr_V d p j e) → dr_J w0 d p a0 len cap n bm (fun j => j == 4 || f j) e' w' → K (a.put dr_o4.dst v) w')) :
    if Region.wanted dr_o4 (yielded dr_O a.tmps) = true then Oper.wp Tryd.prog dr_o4 a w K Q else K (a.put dr_o4.dst undef) w := by
  unfold dr_o4 at hdep hK ⊢
  obtain ⟨⟨nn, hnn, hS⟩, hab, hsl, hD⟩ := hJ
  have hbt : ∀ b, btN b ≤ 1 := fun b => by cases b <;> decide
  have k3 : f 3 = true := hdep { on := 3, ground := .data } (by simp) rfl
  have v18 : a.tmps.getD 18 undef = .pointer (some ⟨p, 0, none⟩) := hFr.new 3 18 rfl k3
  have hz := (hD.no hun).1 (by omega)
  obtain ⟨z5, z8, z9, z10, z11⟩ := hz
  rw [hun] at hnn
  have hb2 := hbt (f 2)
  have hb4 := hbt (f 4)
  have hb7 := hbt (f 7)
  have hf0 : btN false = 0 := rfl
  have hf1 : btN true = 1 := rfl
  have hN : Hid (∀ W, QSg w0 W p a0 len cap nn bm (bif f 11 then sgA (d.write e.x) else sgA d) → Calls Tryd.prog 46 #[.pointer (some ⟨p, 0, none⟩), .int .i64 6] W fun r w' => ∃ v : Int, r = .returned (.int .i64 v) ∧ 0 ≤ v ∧ v < 6 ∧ (∃ n', n' ≤ nn + 3 ∧ QSg w0 w' p a0 len cap n' bm (bif f 11 then sgA (d.write e.x) else sgA d)) ∧ W.grownBy w' (some p)) := fun W hQ => by
    refine (next_any p a0 len cap nn 6 _ hQ.src (by omega)).mono ?_
    rintro r w' ⟨⟨v, rfl, g0, _, g1⟩, ⟨n', hn', hs'⟩, hg⟩
    exact ⟨v, rfl, g0, g1 (by omega), ⟨n', hn', hQ.next hg hs'⟩, hg⟩
  replace hnn := hid hnn
  replace hsl := hid hsl
  replace hD := hid hD
  replace hS := hid hS
  replace hab := hid hab
  clear hdep hFr hp hm
  go_simp
  go_at_call 46
  refine (hN.out _ hS.out).mono ?_
  rintro r w' ⟨v, rfl, g0, g1, ⟨n', hn', hS'⟩, hg⟩
  obtain ⟨vn, rfl⟩ : ∃ vn : Nat, v = vn := ⟨v.toNat, by omega⟩
  replace hn' := hid hn'
  replace hS' := hid hS'
  replace hg := hid hg
  go_simp
  have hnn := hnn.out
  have hn' := hn'.out
  have hsl := hsl.out
  have hD := hD.out
  have hS := hS.out
  have hS' := hS'.out
  have hg := hg.out
  have hab := hab.out
  exact hK.out _ ⟨e.a1, vn, e.a3, e.g⟩ _ rfl (dr_keep d p e ⟨e.a1, vn, e.a3, e.g⟩ (fun _ => rfl) (fun h => by rw [hun] at h; cases h) (fun _ => rfl) (fun _ => rfl) (fun h => by rw [z8] at h; cases h) (fun h => by rw [z9] at h; cases h) (fun h => by rw [z10] at h; cases h)) ⟨⟨n', (by show n' ≤ n + 3 * (btN (f 2) + btN true + btN (f 7)); omega), (by show QSg w0 w' p a0 len cap n' bm (bif f 11 then _ else sgA d); rw [z11] at hS' ⊢; exact hS')⟩, ⟨hab.1, by show vn < 256; omega, hab.2.2⟩, fun h => (by rw [show f 5 = true from h] at z5; cases z5), ⟨fun h => ⟨(hD.1 h).1, rfl⟩, hD.2⟩⟩
set_option maxRecDepth 100000 in
set_option maxHeartbeats 2000000 in
theorem dr_s5 (A : Act) (w1 w0 : World) (Q : Exit → Act → World → Prop) (d : Sg) (p : Nat) (a0 : Option Addr) (len cap n bm : Nat)
    (hp : A.tmps.getD 0 undef = .pointer (some ⟨p, 0, none⟩)) (hm : A.tmps.getD 3 undef = .pointer (some ⟨bm, 0, none⟩)) (hok : okS d = true) (hn : n ≤ 100000)
    (f : Nat → Bool) (e : DrE) (a : Act) (w : World) (hun : f 5 = false) (hdep : ∀ d ∈ dr_o5.after, Region.binds .any d = true → f d.on = true) (hJ : dr_J w0 d p a0 len cap n bm f e w) (hFr : Fr dr_O A f (fun j => dr_V d p j e) a)
    (K : Act → World → Prop) (hK : Hid (∀ v e' w', v = dr_V d p 5 e' → (∀ j, f j = true → dr_V d p j e' = dr_V d p j e) → dr_J w0 d p a0 len cap n bm (fun j => j == 5 || f j) e' w' → K (a.put dr_o5.dst v) w')) :
    if Region.wanted dr_o5 (yielded dr_O a.tmps) = true then Oper.wp Tryd.prog dr_o5 a w K Q else K (a.put dr_o5.dst undef) w := by
  unfold dr_o5 at hdep hK ⊢
  obtain ⟨⟨nn, hnn, hS⟩, hab, hsl, hD⟩ := hJ
  have hbt : ∀ b, btN b ≤ 1 := fun b => by cases b <;> decide
  have k2 : f 2 = true := hdep { on := 2, ground := .data } (by simp) rfl
  have k4 : f 4 = true := hdep { on := 4, ground := .data } (by simp) rfl
  have v17 : a.tmps.getD 17 undef = .int .i64 (e.a1 : Int) := hFr.new 2 17 rfl k2
  have v19 : a.tmps.getD 19 undef = .int .i64 (e.a2 : Int) := hFr.new 4 19 rfl k4
  obtain ⟨z8, z9, z10, z11⟩ := (hD.no hun).2.1 (by omega)
  have v17b : a.tmps[17]?.getD undef = .int .i64 (e.a1 : Int) := by simpa using v17
  have v19b : a.tmps[19]?.getD undef = .int .i64 (e.a2 : Int) := by simpa using v19
  have hb := (Below.refl w.heap.size w).alloc (Nat.le_refl _) (.cells #[.int .i64 (e.a1 : Int), .int .i64 (e.a2 : Int)] 3)
  have hS2 := hid (hS.below hb)
  have hQ := hid (Blk.new w #[.int .i64 (e.a1 : Int), .int .i64 (e.a2 : Int)] 3)
  have ho := hS.ord
  have hgs := hS.gro.size
  replace ho := hid ho
  replace hgs := hid hgs
  replace hnn := hid hnn
  replace hsl := hid hsl
  replace hD := hid hD
  replace hab := hid hab
  clear hdep hFr hp hm hb hS
  go_simp
  exact hK.out _ ⟨e.a1, e.a2, e.a3, w.heap.size⟩ _ rfl (dr_keep d p e ⟨e.a1, e.a2, e.a3, w.heap.size⟩ (fun _ => rfl) (fun _ => rfl) (fun h => by rw [hun] at h; cases h) (fun _ => rfl) (fun h => by rw [z8] at h; cases h) (fun _ => rfl) (fun _ => rfl)) ⟨⟨nn, hnn.out, hS2.out⟩, hab.out, fun _ => ⟨hQ.out, by have := ho.out; show w0.heap.size < w.heap.size; omega, by have := ho.out; show w.heap.size ≠ bm; omega⟩, ⟨fun _ => ⟨k2, k4⟩, fun h => ⟨rfl, (hD.out.2.1 h).2⟩, hD.out.2.2⟩⟩
set_option maxRecDepth 100000 in
set_option maxHeartbeats 2000000 in
theorem dr_s6 (A : Act) (w1 w0 : World) (Q : Exit → Act → World → Prop) (d : Sg) (p : Nat) (a0 : Option Addr) (len cap n bm : Nat)
    (hp : A.tmps.getD 0 undef = .pointer (some ⟨p, 0, none⟩)) (hm : A.tmps.getD 3 undef = .pointer (some ⟨bm, 0, none⟩)) (hok : okS d = true) (hn : n ≤ 100000)
    (f : Nat → Bool) (e : DrE) (a : Act) (w : World) (hun : f 6 = false) (hdep : ∀ d ∈ dr_o6.after, Region.binds .any d = true → f d.on = true) (hJ : dr_J w0 d p a0 len cap n bm f e w) (hFr : Fr dr_O A f (fun j => dr_V d p j e) a)
    (K : Act → World → Prop) (hK : Hid (∀ v e' w', v = dr_V d p 6 e' → (∀ j, f j = true → dr_V d p j e' = dr_V d p j e) → dr_J w0 d p a0 len cap n bm (fun j => j == 6 || f j) e' w' → K (a.put dr_o6.dst v) w')) :
    if Region.wanted dr_o6 (yielded dr_O a.tmps) = true then Oper.wp Tryd.prog dr_o6 a w K Q else K (a.put dr_o6.dst undef) w := by
  unfold dr_o6 at hdep hK ⊢
  have v0 := (hFr.old 0 (dr_no (by decide))).trans hp
  replace hJ := hid hJ
  clear hdep hFr hp hm
  go_simp
  exact hK.out _ e _ rfl (fun _ _ => rfl) hJ.out
set_option maxRecDepth 100000 in
set_option maxHeartbeats 2000000 in
theorem dr_s7 (A : Act) (w1 w0 : World) (Q : Exit → Act → World → Prop) (d : Sg) (p : Nat) (a0 : Option Addr) (len cap n bm : Nat)
    (hp : A.tmps.getD 0 undef = .pointer (some ⟨p, 0, none⟩)) (hm : A.tmps.getD 3 undef = .pointer (some ⟨bm, 0, none⟩)) (hok : okS d = true) (hn : n ≤ 100000)
    (f : Nat → Bool) (e : DrE) (a : Act) (w : World) (hun : f 7 = false) (hdep : ∀ d ∈ dr_o7.after, Region.binds .any d = true → f d.on = true) (hJ : dr_J w0 d p a0 len cap n bm f e w) (hFr : Fr dr_O A f (fun j => dr_V d p j e) a)
    (K : Act → World → Prop) (hK : Hid (∀ v e' w', v = dr_V d p 7 e' → (∀ j, f j = true → dr_V d p j e' = dr_V d p j e) → dr_J w0 d p a0 len cap n bm (fun j => j == 7 || f j) e' w' → K (a.put dr_o7.dst v) w')) :
    if Region.wanted dr_o7 (yielded dr_O a.tmps) = true then Oper.wp Tryd.prog dr_o7 a w K Q else K (a.put dr_o7.dst undef) w := by
  unfold dr_o7 at hdep hK ⊢
  obtain ⟨⟨nn, hnn, hS⟩, hab, hsl, hD⟩ := hJ
  have hbt : ∀ b, btN b ≤ 1 := fun b => by cases b <;> decide
  have k6 : f 6 = true := hdep { on := 6, ground := .data } (by simp) rfl
  have v21 : a.tmps.getD 21 undef = .pointer (some ⟨p, 0, none⟩) := hFr.new 6 21 rfl k6
  have hz := (hD.no hun).2.1 (by omega)
  obtain ⟨z8, z9, z10, z11⟩ := hz
  rw [hun] at hnn
  have hb2 := hbt (f 2)
  have hb4 := hbt (f 4)
  have hb7 := hbt (f 7)
  have hf0 : btN false = 0 := rfl
  have hf1 : btN true = 1 := rfl
  have hN : Hid (∀ W, QSg w0 W p a0 len cap nn bm (bif f 11 then sgA (d.write e.x) else sgA d) → Calls Tryd.prog 46 #[.pointer (some ⟨p, 0, none⟩), .int .i64 2] W fun r w' => ∃ v : Int, r = .returned (.int .i64 v) ∧ 0 ≤ v ∧ v < 2 ∧ (∃ n', n' ≤ nn + 3 ∧ QSg w0 w' p a0 len cap n' bm (bif f 11 then sgA (d.write e.x) else sgA d)) ∧ W.grownBy w' (some p)) := fun W hQ => by
    refine (next_any p a0 len cap nn 2 _ hQ.src (by omega)).mono ?_
    rintro r w' ⟨⟨v, rfl, g0, _, g1⟩, ⟨n', hn', hs'⟩, hg⟩
    exact ⟨v, rfl, g0, g1 (by omega), ⟨n', hn', hQ.next hg hs'⟩, hg⟩
  replace hnn := hid hnn
  replace hsl := hid hsl
  replace hD := hid hD
  replace hS := hid hS
  replace hab := hid hab
  clear hdep hFr hp hm
  go_simp
  go_at_call 46
  refine (hN.out _ hS.out).mono ?_
  rintro r w' ⟨v, rfl, g0, g1, ⟨n', hn', hS'⟩, hg⟩
  obtain ⟨vn, rfl⟩ : ∃ vn : Nat, v = vn := ⟨v.toNat, by omega⟩
  replace hn' := hid hn'
  replace hS' := hid hS'
  replace hg := hid hg
  go_simp
  have hnn := hnn.out
  have hn' := hn'.out
  have hsl := hsl.out
  have hD := hD.out
  have hS := hS.out
  have hS' := hS'.out
  have hg := hg.out
  have hab := hab.out
  exact hK.out _ ⟨e.a1, e.a2, vn, e.g⟩ _ rfl (dr_keep d p e ⟨e.a1, e.a2, vn, e.g⟩ (fun _ => rfl) (fun _ => rfl) (fun _ => rfl) (fun h => by rw [hun] at h; cases h) (fun h => by rw [z8] at h; cases h) (fun h => by rw [z9] at h; cases h) (fun h => by rw [z10] at h; cases h)) ⟨⟨n', (by show n' ≤ n + 3 * (btN (f 2) + btN (f 4) + btN true); omega), (by show QSg w0 w' p a0 len cap n' bm (bif f 11 then _ else sgA d); rw [z11] at hS' ⊢; exact hS')⟩, ⟨hab.1, hab.2.1, by show vn < 2; omega⟩, fun h => ⟨(hsl h).1.grown hg (by have := (hsl h).2.1; have := hS.ord; simp; omega), (hsl h).2⟩, ⟨hD.1, fun h => ⟨(hD.2.1 h).1, rfl⟩, hD.2.2⟩⟩
set_option maxRecDepth 100000 in
set_option maxHeartbeats 2000000 in
theorem dr_s8 (A : Act) (w1 w0 : World) (Q : Exit → Act → World → Prop) (d : Sg) (p : Nat) (a0 : Option Addr) (len cap n bm : Nat)
    (hp : A.tmps.getD 0 undef = .pointer (some ⟨p, 0, none⟩)) (hm : A.tmps.getD 3 undef = .pointer (some ⟨bm, 0, none⟩)) (hok : okS d = true) (hn : n ≤ 100000)
    (f : Nat → Bool) (e : DrE) (a : Act) (w : World) (hun : f 8 = false) (hdep : ∀ d ∈ dr_o8.after, Region.binds .any d = true → f d.on = true) (hJ : dr_J w0 d p a0 len cap n bm f e w) (hFr : Fr dr_O A f (fun j => dr_V d p j e) a)
    (K : Act → World → Prop) (hK : Hid (∀ v e' w', v = dr_V d p 8 e' → (∀ j, f j = true → dr_V d p j e' = dr_V d p j e) → dr_J w0 d p a0 len cap n bm (fun j => j == 8 || f j) e' w' → K (a.put dr_o8.dst v) w')) :
    if Region.wanted dr_o8 (yielded dr_O a.tmps) = true then Oper.wp Tryd.prog dr_o8 a w K Q else K (a.put dr_o8.dst undef) w := by
  unfold dr_o8 at hdep hK ⊢
  obtain ⟨⟨nn, hnn, hS⟩, hab, hsl, hD⟩ := hJ
  have hbt : ∀ b, btN b ≤ 1 := fun b => by cases b <;> decide
  have k5 : f 5 = true := hdep { on := 5, ground := .data } (by simp) rfl
  have k7 : f 7 = true := hdep { on := 7, ground := .data } (by simp) rfl
  have v20 : a.tmps.getD 20 undef = .slice (some ⟨e.g, 0, none⟩) 2 2 := hFr.new 5 20 rfl k5
  have v22 : a.tmps.getD 22 undef = .int .i64 (e.a3 : Int) := hFr.new 7 22 rfl k7
  have hq := (hsl k5).1.cell
  have h3 := hab.2.2
  have h30 : (0 : Int) ≤ (e.a3 : Int) := by omega
  have h31 : (e.a3 : Int) < 2 := by omega
  replace hnn := hid hnn
  replace hsl := hid hsl
  replace hD := hid hD
  replace hS := hid hS
  replace hab := hid hab
  clear hdep hFr hp hm hq
  go_simp
  exact hK.out _ e _ (by unfold dr_V; simp) (fun _ _ => rfl) ⟨⟨nn, hnn.out, hS.out⟩, hab.out, hsl.out, ⟨hD.out.1, fun _ => ⟨k5, k7⟩, fun h => rfl, hD.out.2.2.2⟩⟩
set_option maxRecDepth 100000 in
set_option maxHeartbeats 2000000 in
theorem dr_s9 (A : Act) (w1 w0 : World) (Q : Exit → Act → World → Prop) (d : Sg) (p : Nat) (a0 : Option Addr) (len cap n bm : Nat)
    (hp : A.tmps.getD 0 undef = .pointer (some ⟨p, 0, none⟩)) (hm : A.tmps.getD 3 undef = .pointer (some ⟨bm, 0, none⟩)) (hok : okS d = true) (hn : n ≤ 100000)
    (f : Nat → Bool) (e : DrE) (a : Act) (w : World) (hun : f 9 = false) (hdep : ∀ d ∈ dr_o9.after, Region.binds .any d = true → f d.on = true) (hJ : dr_J w0 d p a0 len cap n bm f e w) (hFr : Fr dr_O A f (fun j => dr_V d p j e) a)
    (K : Act → World → Prop) (hK : Hid (∀ v e' w', v = dr_V d p 9 e' → (∀ j, f j = true → dr_V d p j e' = dr_V d p j e) → dr_J w0 d p a0 len cap n bm (fun j => j == 9 || f j) e' w' → K (a.put dr_o9.dst v) w')) :
    if Region.wanted dr_o9 (yielded dr_O a.tmps) = true then Oper.wp Tryd.prog dr_o9 a w K Q else K (a.put dr_o9.dst undef) w := by
  unfold dr_o9 at hdep hK ⊢
  obtain ⟨⟨nn, hnn, hS⟩, hab, hsl, hD⟩ := hJ
  have hbt : ∀ b, btN b ≤ 1 := fun b => by cases b <;> decide
  have k8 : f 8 = true := hdep { on := 8, ground := .data } (by simp) rfl
  have v23 : a.tmps.getD 23 undef = .pointer (some ⟨e.g, e.a3, none⟩) := hFr.new 8 23 rfl k8
  have k5 := (hD.2.1 k8).1
  have hq : w.cell? ⟨e.g, e.a3, none⟩ = some (.int .i64 (e.x : Int)) := by
    rw [(hsl k5).1.cell e.a3]
    have h3 := hab.2.2
    unfold DrE.x
    rcases (by omega : e.a3 = 0 ∨ e.a3 = 1) with h | h <;> rw [h] <;> rfl
  replace hnn := hid hnn
  replace hsl := hid hsl
  replace hD := hid hD
  replace hS := hid hS
  replace hab := hid hab
  clear hdep hFr hp hm
  go_simp
  exact hK.out _ e _ rfl (fun _ _ => rfl) ⟨⟨nn, hnn.out, hS.out⟩, hab.out, hsl.out, ⟨hD.out.1, hD.out.2.1, fun _ => k8, fun h => ⟨rfl, (hD.out.2.2.2.1 h).2⟩, hD.out.2.2.2.2⟩⟩
set_option maxRecDepth 100000 in
set_option maxHeartbeats 2000000 in
theorem dr_s10 (A : Act) (w1 w0 : World) (Q : Exit → Act → World → Prop) (d : Sg) (p : Nat) (a0 : Option Addr) (len cap n bm : Nat)
    (hp : A.tmps.getD 0 undef = .pointer (some ⟨p, 0, none⟩)) (hm : A.tmps.getD 3 undef = .pointer (some ⟨bm, 0, none⟩)) (hok : okS d = true) (hn : n ≤ 100000)
    (f : Nat → Bool) (e : DrE) (a : Act) (w : World) (hun : f 10 = false) (hdep : ∀ d ∈ dr_o10.after, Region.binds .any d = true → f d.on = true) (hJ : dr_J w0 d p a0 len cap n bm f e w) (hFr : Fr dr_O A f (fun j => dr_V d p j e) a)
    (K : Act → World → Prop) (hK : Hid (∀ v e' w', v = dr_V d p 10 e' → (∀ j, f j = true → dr_V d p j e' = dr_V d p j e) → dr_J w0 d p a0 len cap n bm (fun j => j == 10 || f j) e' w' → K (a.put dr_o10.dst v) w')) :
    if Region.wanted dr_o10 (yielded dr_O a.tmps) = true then Oper.wp Tryd.prog dr_o10 a w K Q else K (a.put dr_o10.dst undef) w := by
  unfold dr_o10 at hdep hK ⊢
  obtain ⟨⟨nn, hnn, hS⟩, hab, hsl, hD⟩ := hJ
  have hbt : ∀ b, btN b ≤ 1 := fun b => by cases b <;> decide
  have k0 : f 0 = true := hdep { on := 0, ground := .data } (by simp) rfl
  have k9 : f 9 = true := hdep { on := 9, ground := .data } (by simp) rfl
  have v15 : a.tmps.getD 15 undef = sgV d := hFr.new 0 15 rfl k0
  have v24 : a.tmps.getD 24 undef = .int .i64 (e.x : Int) := hFr.new 9 24 rfl k9
  have hx : e.x < 256 := by unfold DrE.x; split <;> omega
  have z11 : f 11 = false := by
    cases h : f 11
    · rfl
    · have := hD.2.2.2.2 h
      rw [hun] at this
      cases this
  have hW := hid (fun w1 => swrite_spec d e.x w1 hok hx)
  obtain ⟨X, hX⟩ : ∃ X, d.write e.x = X := ⟨_, rfl⟩
  rw [hX] at hW
  obtain ⟨xx, hxx⟩ : ∃ xx, e.x = xx := ⟨_, rfl⟩
  rw [hxx] at hW v24
  replace hX := hid hX
  replace hxx := hid hxx
  replace hnn := hid hnn
  replace hsl := hid hsl
  replace hD := hid hD
  replace hS := hid hS
  replace hab := hid hab
  clear hdep hFr hp hm hx
  go_simp
  go_at_call 30
  refine (hW.out _).mono ?_
  rintro r w' ⟨rfl, hb⟩
  replace hb := hid hb
  go_simp
  exact hK.out _ e _ (by show sgV X = sgV (d.write e.x); rw [hX.out]) (fun _ _ => rfl) ⟨⟨nn, hnn.out, hS.out.below hb.out⟩, hab.out, fun h => ⟨(hsl.out h).1.below hb.out (hsl.out h).1.lt, (hsl.out h).2⟩, ⟨hD.out.1, hD.out.2.1, hD.out.2.2.1, fun _ => ⟨k9, k0⟩, fun h => rfl⟩⟩
set_option maxRecDepth 100000 in
set_option maxHeartbeats 2000000 in
theorem dr_s11 (A : Act) (w1 w0 : World) (Q : Exit → Act → World → Prop) (d : Sg) (p : Nat) (a0 : Option Addr) (len cap n bm : Nat)
    (hp : A.tmps.getD 0 undef = .pointer (some ⟨p, 0, none⟩)) (hm : A.tmps.getD 3 undef = .pointer (some ⟨bm, 0, none⟩)) (hok : okS d = true) (hn : n ≤ 100000)
    (f : Nat → Bool) (e : DrE) (a : Act) (w : World) (hun : f 11 = false) (hdep : ∀ d ∈ dr_o11.after, Region.binds .any d = true → f d.on = true) (hJ : dr_J w0 d p a0 len cap n bm f e w) (hFr : Fr dr_O A f (fun j => dr_V d p j e) a)
    (K : Act → World → Prop) (hK : Hid (∀ v e' w', v = dr_V d p 11 e' → (∀ j, f j = true → dr_V d p j e' = dr_V d p j e) → dr_J w0 d p a0 len cap n bm (fun j => j == 11 || f j) e' w' → K (a.put dr_o11.dst v) w')) :
    if Region.wanted dr_o11 (yielded dr_O a.tmps) = true then Oper.wp Tryd.prog dr_o11 a w K Q else K (a.put dr_o11.dst undef) w := by
  unfold dr_o11 at hdep hK ⊢
  obtain ⟨⟨nn, hnn, hS⟩, hab, hsl, hD⟩ := hJ
  have hbt : ∀ b, btN b ≤ 1 := fun b => by cases b <;> decide
  have k10 : f 10 = true := hdep { on := 10, ground := .data } (by simp) rfl
  have v25 : a.tmps.getD 25 undef = sgV (d.write e.x) := hFr.new 10 25 rfl k10
  have v3 := (hFr.old 3 (dr_no (by decide))).trans hm
  have hS2 : QSg w0 w p a0 len cap nn bm (sgA d) := by
    have := hS
    rw [hun] at this
    exact this
  rw [if_pos (by rfl)]
  refine wp_store_mid 27 _ _ rfl bm 0 (sgA (d.write e.x)) v3 v25 (sg_there hS2.qm _) (sg_size _) (sg_one _) ?_
  exact hK.out (dr_V d p 11 e) e _ rfl (fun _ _ => rfl) ⟨⟨nn, hnn, hS2.lay _⟩, hab, fun h => ⟨setCells_other (hsl h).2.2 _ _ _ (hsl h).1, (hsl h).2⟩, ⟨hD.1, hD.2.1, hD.2.2.1, hD.2.2.2.1, fun _ => k10⟩⟩
set_option maxRecDepth 100000 in
set_option maxHeartbeats 4000000 in
theorem dr_reg (A : Act) (w1 w0 : World) (Q : Exit → Act → World → Prop) (d : Sg) (p : Nat) (a0 : Option Addr) (len cap n bm : Nat)
    (hp : A.tmps.getD 0 undef = .pointer (some ⟨p, 0, none⟩)) (hm : A.tmps.getD 3 undef = .pointer (some ⟨bm, 0, none⟩)) (hok : okS d = true) (hn : n ≤ 100000) (hN : 26 ≤ A.tmps.size) (hS : QSg w0 w1 p a0 len cap n bm (sgA d))
    (h : ∀ (w : World) (a1 a2 a3 g x nn : Nat), x < 256 → nn ≤ n + 9 → QSg w0 w p a0 len cap nn bm (sgA (d.write x)) → Q .normal (putsA A [(15, sgV d), (16, .pointer (some ⟨p, 0, none⟩)), (17, .int .i64 (a1 : Int)), (18, .pointer (some ⟨p, 0, none⟩)), (19, .int .i64 (a2 : Int)), (20, .slice (some ⟨g, 0, none⟩) 2 2), (21, .pointer (some ⟨p, 0, none⟩)), (22, .int .i64 (a3 : Int)), (23, .pointer (some ⟨g, a3, none⟩)), (24, .int .i64 (x : Int)), (25, sgV (d.write x))]) w) :
    (Code.region 6 #[({ dst := some 15, op := Op.load 27 (Operand.tmp 3), type := 27, pos := "l08_psg.go:158", after := #[], guard := none } : Oper), ({ dst := some 16, op := Op.move (Operand.tmp 0), type := 43, pos := "l08_psg.go:158", after := #[], guard := none } : Oper), ({ dst := some 17, op := Op.call { callee := Callee.value (Operand.func 46), args := #[Operand.tmp 16, Operand.const (Value.int IntKind.i64 256)], argTypes := #[43, 3] }, type := 3, pos := "l08_psg.go:158", after := #[{ on := 1, ground := Ground.data }], guard := none } : Oper), ({ dst := some 18, op := Op.move (Operand.tmp 0), type := 43, pos := "l08_psg.go:158", after := #[], guard := none } : Oper), ({ dst := some 19, op := Op.call { callee := Callee.value (Operand.func 46), args := #[Operand.tmp 18, Operand.const (Value.int IntKind.i64 6)], argTypes := #[43, 3] }, type := 3, pos := "l08_psg.go:158", after := #[{ on := 3, ground := Ground.data }, { on := 2, ground := Ground.chain }], guard := none } : Oper), ({ dst := some 20, op := Op.buildSlice 65 2 #[(0, Operand.tmp 17), (1, Operand.tmp 19)], type := 65, pos := "l08_psg.go:158", after := #[{ on := 2, ground := Ground.data }, { on := 4, ground := Ground.data }], guard := none } : Oper), ({ dst := some 21, op := Op.move (Operand.tmp 0), type := 43, pos := "l08_psg.go:158", after := #[], guard := none } : Oper), ({ dst := some 22, op := Op.call { callee := Callee.value (Operand.func 46), args := #[Operand.tmp 21, Operand.const (Value.int IntKind.i64 2)], argTypes := #[43, 3] }, type := 3, pos := "l08_psg.go:158", after := #[{ on := 6, ground := Ground.data }, { on := 4, ground := Ground.chain }], guard := none } : Oper), ({ dst := some 23, op := Op.indexAddr 65 (Operand.tmp 20) (Operand.tmp 22), type := 0, pos := "l08_psg.go:158", after := #[{ on := 5, ground := Ground.data }, { on := 7, ground := Ground.data }], guard := none } : Oper), ({ dst := some 24, op := Op.load 3 (Operand.tmp 23), type := 3, pos := "l08_psg.go:158", after := #[{ on := 8, ground := Ground.data }], guard := none } : Oper), ({ dst := some 25, op := Op.call { callee := Callee.value (Operand.func 30), args := #[Operand.tmp 15, Operand.tmp 24], argTypes := #[27, 3] }, type := 27, pos := "l08_psg.go:158", after := #[{ on := 0, ground := Ground.data }, { on := 9, ground := Ground.data }, { on := 7, ground := Ground.chain }], guard := none } : Oper), ({ dst := none, op := Op.store 27 (Operand.tmp 3) (Operand.tmp 25), type := 0, pos := "l08_psg.go:158", after := #[{ on := 10, ground := Ground.data }, { on := 10, ground := Ground.chain }, { on := 0, ground := Ground.phase }, { on := 1, ground := Ground.phase }, { on := 2, ground := Ground.phase }, { on := 3, ground := Ground.phase }, { on := 4, ground := Ground.phase }, { on := 5, ground := Ground.phase }, { on := 6, ground := Ground.phase }, { on := 7, ground := Ground.phase }, { on := 8, ground := Ground.phase }, { on := 9, ground := Ground.phase }, { on := 10, ground := Ground.phase }], guard := none } : Oper)] true).wp Tryd.prog Q A w1 := by
  show (Code.region 6 dr_O true).wp Tryd.prog Q A w1
  refine wp_region_slots (E := DrE) (dr_V d p) (dr_J w0 d p a0 len cap n bm) (by kernel_rfl) (by kernel_rfl) (by kernel_rfl) (fun i s hi => ?_) ?_ ⟨0, 0, 0, 0⟩ ⟨⟨n, Nat.le_refl _, hS.drew⟩, ⟨by decide, by decide, by decide⟩, fun h => (by cases h), ⟨fun h => (by cases h), fun h => (by cases h), fun h => (by cases h), fun h => (by cases h), fun h => (by cases h)⟩⟩ ?_
  · cases hc : ([15, 16, 17, 18, 19, 20, 21, 22, 23, 24, 25] : List Nat).contains s
    · exact absurd hi (dr_no hc i)
    · have : s ∈ ([15, 16, 17, 18, 19, 20, 21, 22, 23, 24, 25] : List Nat) := by simpa using hc
      simp only [List.mem_cons, List.not_mem_nil, or_false] at this
      omega
  · intro f e a w i o hi ho hun hdep hJ hFr K hK
    have hi8 : i < 12 := hi
    rcases (by omega : i = 0 ∨ i = 1 ∨ i = 2 ∨ i = 3 ∨ i = 4 ∨ i = 5 ∨ i = 6 ∨ i = 7 ∨ i = 8 ∨ i = 9 ∨ i = 10 ∨ i = 11) with rfl | rfl | rfl | rfl | rfl | rfl | rfl | rfl | rfl | rfl | rfl | rfl
    · obtain rfl := Option.some.inj ho
      exact dr_s0 A w1 w0 Q d p a0 len cap n bm hp hm hok hn f e a w hun hdep hJ hFr K hK
    · obtain rfl := Option.some.inj ho
      exact dr_s1 A w1 w0 Q d p a0 len cap n bm hp hm hok hn f e a w hun hdep hJ hFr K hK
    · obtain rfl := Option.some.inj ho
      exact dr_s2 A w1 w0 Q d p a0 len cap n bm hp hm hok hn f e a w hun hdep hJ hFr K hK
    · obtain rfl := Option.some.inj ho
      exact dr_s3 A w1 w0 Q d p a0 len cap n bm hp hm hok hn f e a w hun hdep hJ hFr K hK
    · obtain rfl := Option.some.inj ho
      exact dr_s4 A w1 w0 Q d p a0 len cap n bm hp hm hok hn f e a w hun hdep hJ hFr K hK
    · obtain rfl := Option.some.inj ho
      exact dr_s5 A w1 w0 Q d p a0 len cap n bm hp hm hok hn f e a w hun hdep hJ hFr K hK
    · obtain rfl := Option.some.inj ho
      exact dr_s6 A w1 w0 Q d p a0 len cap n bm hp hm hok hn f e a w hun hdep hJ hFr K hK
    · obtain rfl := Option.some.inj ho
      exact dr_s7 A w1 w0 Q d p a0 len cap n bm hp hm hok hn f e a w hun hdep hJ hFr K hK
    · obtain rfl := Option.some.inj ho
      exact dr_s8 A w1 w0 Q d p a0 len cap n bm hp hm hok hn f e a w hun hdep hJ hFr K hK
    · obtain rfl := Option.some.inj ho
      exact dr_s9 A w1 w0 Q d p a0 len cap n bm hp hm hok hn f e a w hun hdep hJ hFr K hK
    · obtain rfl := Option.some.inj ho
      exact dr_s10 A w1 w0 Q d p a0 len cap n bm hp hm hok hn f e a w hun hdep hJ hFr K hK
    · obtain rfl := Option.some.inj ho
      exact dr_s11 A w1 w0 Q d p a0 len cap n bm hp hm hok hn f e a w hun hdep hJ hFr K hK
  · intro f e a w hall hJ hFr
    obtain ⟨⟨nn, hnn, hS'⟩, hab, _, _⟩ := hJ
    rw [hall 2 (by decide), hall 4 (by decide), hall 7 (by decide)] at hnn
    rw [hall 11 (by decide)] at hS'
    have hf1 : btN true = 1 := rfl
    have := h w e.a1 e.a2 e.a3 e.g e.x nn (by unfold DrE.x; split <;> omega) (by omega) hS'
    rw [hFr.eq [(15, sgV d), (16, .pointer (some ⟨p, 0, none⟩)), (17, .int .i64 (e.a1 : Int)), (18, .pointer (some ⟨p, 0, none⟩)), (19, .int .i64 (e.a2 : Int)), (20, .slice (some ⟨e.g, 0, none⟩) 2 2), (21, .pointer (some ⟨p, 0, none⟩)), (22, .int .i64 (e.a3 : Int)), (23, .pointer (some ⟨e.g, e.a3, none⟩)), (24, .int .i64 (e.x : Int)), (25, sgV (d.write e.x))] (fun s hs => ?_) (fun i s hi => ?_)]
    · exact this
    · have hne : ∀ k ∈ ([15, 16, 17, 18, 19, 20, 21, 22, 23, 24, 25] : List Nat), k ≠ s := by
        intro k hk e2
        subst e2
        simp only [List.mem_cons, List.not_mem_nil, or_false] at hk
        rcases hk with rfl | rfl | rfl | rfl | rfl | rfl | rfl | rfl | rfl | rfl | rfl
        · exact hs 0 rfl
        · exact hs 1 rfl
        · exact hs 2 rfl
        · exact hs 3 rfl
        · exact hs 4 rfl
        · exact hs 5 rfl
        · exact hs 6 rfl
        · exact hs 7 rfl
        · exact hs 8 rfl
        · exact hs 9 rfl
        · exact hs 10 rfl
      simp only [lookA]
      simp [hne]
    · have hl : i < 12 := by
        rcases Nat.lt_or_ge i 12 with h1 | h1
        · exact h1
        · unfold dstAt at hi
          rw [Array.getElem?_eq_none (by exact h1)] at hi
          cases hi
      refine ⟨hall i hl, ?_⟩
      rcases (by omega : i = 0 ∨ i = 1 ∨ i = 2 ∨ i = 3 ∨ i = 4 ∨ i = 5 ∨ i = 6 ∨ i = 7 ∨ i = 8 ∨ i = 9 ∨ i = 10 ∨ i = 11) with rfl | rfl | rfl | rfl | rfl | rfl | rfl | rfl | rfl | rfl | rfl | rfl
      all_goals first
        | (cases hi; rfl)
        | cases hi
end Go.Proofs.YtjdgfbaioafjcaaDoor
