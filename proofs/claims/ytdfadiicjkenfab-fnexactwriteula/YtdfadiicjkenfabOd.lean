/- A key that is pressed or let go: what the specification and the program answer. -/
import Derived.Test.YtdfadiicjkenfabOb
namespace Go.Proofs.Ytdfadiicjkenfab
open Go.ChangeShapes Go.WideShapes Go.ChangeAt Go.RowKit
set_option linter.unusedVariables false
set_option linter.unusedSimpArgs false

def upN (x k : Nat) : Nat := Nat.lor x (Nat.pow 2 k)
def dnN (x k : Nat) : Nat := Nat.sub x (Nat.land x (Nat.pow 2 k))
def keyN (x k : Nat) (down : Bool) : Nat := cond down (dnN x k) (upN x k)
def press2 (p : Po) (row key : Int) (down : Bool) : Po × Int := if okP p = true then (if (inB row 0 7 && inB key 0 4) = true then (p.put (keyN (p.key row.toNat).toNat key.toNat down : Nat) row.toNat, 0) else (zeP, 4)) else (zeP, 1)
abbrev ans2 (r : Po × Int) : Value := .tuple #[poV r.1, .int .i64 r.2]
def allE (p : Nat → Nat → Bool) : Bool := allB 32 fun x => p x 0 && p x 1 && p x 2 && p x 3 && p x 4
theorem upN_lt : ∀ x : Nat, x < 32 → ∀ k : Nat, k < 5 → upN x k < 32 := by decide +kernel
theorem dnN_lt : ∀ x : Nat, x < 32 → ∀ k : Nat, k < 5 → dnN x k < 32 := by decide +kernel
theorem dn_0 : ∀ x : Nat, x < 32 → bits .andNot .i64 (x : Int) 1 = (dnN x 0 : Nat) ∧ dnN (upN x 0) 0 = dnN x 0 := by decide +kernel
theorem dn_1 : ∀ x : Nat, x < 32 → bits .andNot .i64 (x : Int) 2 = (dnN x 1 : Nat) ∧ dnN (upN x 1) 1 = dnN x 1 := by decide +kernel
theorem dn_2 : ∀ x : Nat, x < 32 → bits .andNot .i64 (x : Int) 4 = (dnN x 2 : Nat) ∧ dnN (upN x 2) 2 = dnN x 2 := by decide +kernel
theorem dn_3 : ∀ x : Nat, x < 32 → bits .andNot .i64 (x : Int) 8 = (dnN x 3 : Nat) ∧ dnN (upN x 3) 3 = dnN x 3 := by decide +kernel
theorem dn_4 : ∀ x : Nat, x < 32 → bits .andNot .i64 (x : Int) 16 = (dnN x 4 : Nat) ∧ dnN (upN x 4) 4 = dnN x 4 := by decide +kernel
/-- ports in a block, and room for an answer behind it -/
structure PSp (w W : World) (A : Array Value) : Prop where
  q0 : Blk W w.heap.size A
  q1 : Blk W (w.heap.size + 1) (poA zeP)
  bel : Below w.heap.size w W
theorem PSp.start (w : World) (c : Po) (t t1 : TypeId) : PSp w ((w.alloc (.cells (poA c) t)).alloc (.cells (poA zeP) t1)) (poA c) := by
  obtain ⟨q0, q1, hB⟩ := two_in (w := w) (poA c) (poA zeP) t t1
  exact ⟨q0, q1, hB⟩
theorem PSp.below {w W W' : World} {A : Array Value} (h : PSp w W A) (hb : Below W.heap.size W W') : PSp w W' A :=
  ⟨h.q0.below hb h.q0.lt, h.q1.below hb h.q1.lt, h.bel.trans (hb.mono h.bel.size)⟩
theorem PSp.drew {w W : World} {A : Array Value} (h : PSp w W A) : PSp w W.drew A := h.below ⟨rfl, rfl, rfl, Nat.le_refl _, fun _ _ => rfl⟩
theorem PSp.set {w W : World} {A : Array Value} (h : PSp w W A) (i : Nat) (u : Value) : PSp w (W.setCell ⟨w.heap.size, i, none⟩ u) (A.setIfInBounds i u) :=
  ⟨h.q0.set i u, h.q1.other (by simp) u, h.bel.setCell (p := ⟨w.heap.size, i, none⟩) (Nat.le_refl _) u⟩
theorem poA_put_at (c : Po) (k : Nat) (v : Int) (hk : k < 8) : (poA (c.put v k))[k]? = some (.int .i64 v) := by
  rcases eight hk with rfl | rfl | rfl | rfl | rfl | rfl | rfl | rfl <;> rfl
theorem put_put (c : Po) (k : Nat) (u v : Int) (hk : k < 8) : (c.put u k).put v k = c.put v k := by
  rcases eight hk with rfl | rfl | rfl | rfl | rfl | rfl | rfl | rfl <;> rfl
def pfN (c : Po) (b : Bool) : Int := if okP c = true then (if b = true then 0 else 4) else 1
set_option maxRecDepth 100000 in
theorem pfault_impl (c : Po) (b : Bool) (w : World) : Calls Try.prog 15 #[poV c, .bool b] w fun e w' => e = .returned (.int .i64 (pfN c b)) ∧ Below w.heap.size w w' := by
  have hB := hid ((Below.refl w.heap.size w).alloc (Nat.le_refl _) (.cells (poA c) 27))
  have x0 := (Blk.new w (poA c) 27).cell
  have hok := hid (fun w1 => pok_impl c w1)
  have e : pfN c b = if okP c = true then (if b = true then 0 else 4) else 1 := rfl
  rw [e]
  clear e
  generalize okP c = Q at *
  go_enter Try.func15, Try.ntmps15
  go_upto_region 1 with fail
  obtain ⟨V, hV⟩ : ∃ V, w.alloc (Obj.cells (poA c) 27) = V := ⟨_, rfl⟩
  rw [hV] at hB x0 ⊢
  clear hV
  go_wp2_with fail
  refine (hok.out _).mono ?_
  rintro e w1 ⟨rfl, hb⟩
  have hb1 := hid (new_trans hB.out hb)
  clear hb hB x0
  cases Q
  · go_wp2
    go_ret
    exact ⟨rfl, hb1.out⟩
  · cases b
    · go_wp2
      go_ret
      exact ⟨rfl, hb1.out⟩
    · go_wp2
      go_ret
      exact ⟨rfl, hb1.out⟩
end Go.Proofs.Ytdfadiicjkenfab
