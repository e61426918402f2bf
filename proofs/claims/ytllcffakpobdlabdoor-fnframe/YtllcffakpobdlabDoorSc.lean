/- What the specification's WaitTable answers: a row of its own, the waits of each T. -/
import Derived.Test.YtllcffakpobdlabDoorSa
import Derived.OwnWalk
import Derived.Deep.AppendLies
namespace Go.Proofs.YtllcffakpobdlabDoor
open Go.ChangeShapes Go.WideShapes Go.ChangeAt Go.RowKit
set_option linter.unusedVariables false

/-- the waits of the first k T -/
def wtN : Nat → List Value
  | 0 => []
  | k + 1 => wtN k ++ [.int .i64 (waitI (k : Int))]
theorem wtN_len (k : Nat) : (wtN k).length = k := by
  induction k with
  | zero => rfl
  | succ k ih => simp [wtN, ih]
theorem wtN_at (k i : Nat) (h : i < k) : (wtN k)[i]? = some (.int .i64 (waitI (i : Int))) := by
  induction k with
  | zero => omega
  | succ k ih =>
    by_cases e : i = k
    · subst e
      simp [wtN, wtN_len]
    · rw [wtN, List.getElem?_append_left (by rw [wtN_len]; omega)]
      exact ih (by omega)
theorem wt_step {w wr w1 : World} {k : Nat} {u v' : Value} {o : Obj} (hown : wr.ownsRow w.heap.size 3 1 u k (wtN k)) (hbel : Below w.heap.size w wr)
    (hown1 : w1.ownsRow w.heap.size 3 1 v' (k + 1) (wtN k ++ [.int .i64 (waitI (k : Int))])) (hgrow : (wr.alloc o).grownBy w1 u.ownBlock) :
    w1.ownsRow w.heap.size 3 1 v' (k + 1) (wtN (k + 1)) ∧ Below w.heap.size w w1 := by
  have hsz := hbel.size
  exact ⟨hown1, (hbel.alloc (by omega) _).grown hgrow (by simp; omega) (fun g hg => (hown.lt g hg).1)⟩
end Go.Proofs.YtllcffakpobdlabDoor
