/- What impl.Parity and spec.Parity answer, and the functions that they call: both are the one test parB, in every world, which stays as it was. -/
import Derived.Test.YtneagomkohoceabDoorBasel
import Derived.WalkKit
import Derived.ProofKit
import Derived.Lib.Tables
import Derived.Laws.BitsAllLaws
import Derived.Test.YtneagomkohoceabDoorBtl
import Derived.Test.YtneagomkohoceabDoorL05
import Derived.Test.YtneagomkohoceabDoorVal
import Derived.OwnWalk
import Derived.Deep.AppendLies
import Derived.Deep.DeepCutAuto
namespace Go.Proofs.YtneagomkohoceabDoor
open Go.ChangeShapes Go.WideShapes Go.ChangeAt Go.RowKit
set_option linter.unusedVariables false

def prf : Nat → Nat → Bool
  | 0, _ => false
  | f + 1, n => (n % 2 == 1) != prf f (n / 2)
theorem prf_zero (f : Nat) : prf f 0 = false := by
  induction f with
  | zero => rfl
  | succ f ih => simp [prf, ih]
theorem i64_and1 (n : Nat) (h : n < 256) : bits .and .i64 (n : Int) 1 = ((n % 2 : Nat) : Int) := by
  show IntKind.i64.wrap ((BitVec.ofInt 64 (n : Int) &&& BitVec.ofInt 64 1).toNat : Nat) = _
  have h1 : (BitVec.ofInt 64 1).toNat = 1 := by decide
  rw [BitVec.toNat_and, BitVec.toNat_ofInt, h1, Nat.and_one_is_mod, IntKind.wrap_i64]
  omega
theorem pop8_par : ∀ v : Fin 256, (Lib.pop8 (v.val : Int) % 2 == 0) = !prf 8 v.val := by decide +kernel

theorem round_par {e : Bool} {f n : Nat} (h : 0 < n) (hn : n < 2 ^ f) (hn2 : n < 256) {B : Bool} (H : (e != prf f n) = B) :
    ∃ (f' n' : Nat) (e' : Bool), n' < 2 ^ f' ∧ n' < 256 ∧ Value.int .i64 ((n : Int) / 2) = .int .i64 n' ∧ Value.bool (!(e == (bits BinOp.and IntKind.i64 (n : Int) 1 == 1))) = .bool e' ∧ (e' != prf f' n') = B := by
  cases f with
  | zero => simp at hn; omega
  | succ f =>
    refine ⟨f, n / 2, _, by rw [Nat.pow_succ] at hn; omega, by omega, by simp, rfl, ?_⟩
    rw [← H, i64_and1 n hn2]
    simp only [prf]
    have : (((n % 2 : Nat) : Int) == 1) = (n % 2 == 1) := by rw [Bool.eq_iff_iff]; simp; omega
    rw [this]
    cases e <;> cases (n % 2 == 1) <;> cases prf f (n / 2) <;> rfl
theorem pop8_wrap : ∀ v : Fin 256, wrap64 (Lib.pop8 (v.val : Int)) = Lib.pop8 (v.val : Int) ∧ 0 ≤ Lib.pop8 (v.val : Int) ∧ Lib.pop8 (v.val : Int) ≤ 8 := by decide +kernel
def parB (v : Int) : Bool := decide (0 ≤ v ∧ v ≤ 255) && !prf 8 v.toNat
theorem parB_no {v : Int} (h : ¬ (0 ≤ v ∧ v ≤ 255)) : false = parB v := by unfold parB; rw [decide_eq_false h]; rfl
end Go.Proofs.YtneagomkohoceabDoor

/- What the specification's unit answers, part by part, as plain functions of natural numbers. -/
namespace Go.Proofs.YtneagomkohoceabDoor
open Go.ChangeShapes Go.WideShapes Go.ChangeAt Go.RowKit
set_option linter.unusedVariables false

def szN (v : Nat) : Nat := Nat.lor (Nat.land v 168) (Nat.mul 64 (btN (Nat.beq v 0)))
theorem szN_lt (v : Nat) (hv : v < 256) : szN v < 256 := by
  have h1 : Nat.land v 168 < 2 ^ 8 := Nat.and_lt_two_pow _ (by omega)
  have h2 : Nat.mul 64 (btN (Nat.beq v 0)) < 2 ^ 8 := by unfold btN; cases Nat.beq v 0 <;> decide
  exact Nat.or_lt_two_pow h1 h2
theorem sz_all : allB 256 (fun v => or (Nat.beq v 0) (decide (bits .or .i64 (bits .and .i64 (Int.ofNat v) 168) 0 = Int.ofNat (szN v)))) = true := by decide +kernel
theorem sz_end (v : Nat) (hv : v < 256) (h : v ≠ 0) : bits .or .i64 (bits .and .i64 (v : Int) 168) 0 = (szN v : Nat) := by
  have := allB_at sz_all v hv
  have h4 : Nat.beq v 0 = false := by cases v with | zero => omega | succ n => rfl
  rw [h4, Bool.false_or] at this
  exact of_decide_eq_true this

def szpN (v : Nat) : Nat := Nat.lor (szN v) (Nat.mul 4 (btN (!prf 8 v)))
theorem szpN_lt (v : Nat) (hv : v < 256) : szpN v < 256 := by
  have h2 : Nat.mul 4 (btN (!prf 8 v)) < 2 ^ 8 := by unfold btN; cases (!prf 8 v) <;> decide
  exact Nat.or_lt_two_pow (n := 8) (szN_lt v hv) h2
theorem szp_yes (v : Nat) (hv : v < 256) (h : prf 8 v = false) : bits .or .i64 ((szN v : Nat) : Int) 4 = (szpN v : Nat) := by
  have hl := szN_lt v hv
  have h2 : bits .or .i64 ((szN v : Nat) : Int) 4 = _ := bOr (szN v) 4 (by omega) (by omega)
  rw [h2]
  unfold szpN
  rw [h]
  rfl
theorem szp_no (v : Nat) (hv : v < 256) (h : prf 8 v = true) : bits .or .i64 ((szN v : Nat) : Int) 0 = (szpN v : Nat) := by
  have hl := szN_lt v hv
  have h2 : bits .or .i64 ((szN v : Nat) : Int) 0 = _ := bOr (szN v) 0 (by omega) (by omega)
  rw [h2]
  unfold szpN
  rw [h]
  rfl

theorem bit_spec (b : Bool) (w : World) : Calls Tryd.prog 110 #[.bool b] w fun e w' => e = .returned (.int .i64 (btN b)) ∧ w' = w := by
  cases b
  all_goals
    go_enter Tryd.func110, Tryd.ntmps110
    go_wp2
    go_ret
    exact ⟨rfl, rfl⟩

end Go.Proofs.YtneagomkohoceabDoor

/- The bits of a text and the pulses of a block: the specification. -/
namespace Go.Proofs.YtneagomkohoceabDoor
open Go.ChangeShapes Go.WideShapes Go.ChangeAt Go.RowKit
set_option linter.unusedVariables false
set_option linter.unusedSimpArgs false

theorem infoIV : (Tryd.prog.info? 3).map (fun i => (i.zero, i.size, i.bytes)) = some (some (.int .i64 0), 1, 8) := by kernel_rfl
/-- a row of numbers that grows -/
structure Grow (w W : World) (v : Value) (l : List Int) : Prop where
  own : W.ownsRow w.heap.size 3 1 v l.length (l.map (Value.int .i64))
  bel : Below w.heap.size w W
theorem Grow.below {w W W' : World} {v : Value} {l : List Int} (h : Grow w W v l) (hb : Below W.heap.size W W') : Grow w W' v l := ⟨own_belowU h.own hb, h.bel.trans (hb.mono h.bel.size)⟩
theorem Grow.form {w W : World} {v : Value} {l : List Int} (h : Grow w W v l) : ∃ oa cap, v = .slice oa l.length cap := by
  obtain ⟨_, ⟨h1, h0⟩ | ⟨g, cap, _, h1, _⟩⟩ := h.own
  · exact ⟨none, 0, by rw [h1, h0]⟩
  · exact ⟨_, _, h1⟩
theorem Grow.app {w W W' : World} {v v' : Value} {l : List Int} {o : Obj} (h : Grow w W v l) (xs : List Int) (ho : W'.ownsRow w.heap.size 3 1 v' (l.length + xs.length) (l.map (Value.int .i64) ++ xs.map (Value.int .i64))) (hg : (W.alloc o).grownBy W' v.ownBlock) : Grow w W' v' (l ++ xs) := by
  have hsz := h.bel.size
  refine ⟨by rw [List.length_append, List.map_append]; exact ho, ?_⟩
  exact (h.bel.alloc (by omega) _).grown hg (by simp; omega) (fun g hg => (h.own.lt g hg).1)
theorem Grow.nil (w : World) : Grow w (w.alloc (.cells #[] 3)) (.slice (some ⟨w.heap.size, 0, none⟩) 0 0) [] := ⟨World.ownsRow_lit w #[] 0 (Nat.le_refl _) (by decide) rfl, (Below.refl _ _).alloc (Nat.le_refl _) _⟩
end Go.Proofs.YtneagomkohoceabDoor
