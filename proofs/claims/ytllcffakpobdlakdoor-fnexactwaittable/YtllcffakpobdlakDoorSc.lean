/- What the specification's WaitTable answers: a row of its own, the waits of each T. -/
import Derived.Test.YtllcffakpobdlakDoorSa
import Derived.OwnWalk
import Derived.Deep.AppendLies
namespace Go.Proofs.YtllcffakpobdlakDoor
open Go.ChangeShapes Go.WideShapes Go.ChangeAt Go.RowKit
set_option linter.unusedVariables false

/-- the waits of the first k T -/
def wtN : Nat → List Value
  | 0 => []
  | k + 1 => wtN k ++ [.int .i64 (waitI (k : Int))]
theorem wtN_len (k : Nat) : (wtN k).length = k := by
  induction k with
  | zero => rfl
  | succ k ih => simp [wtN, ih]
theorem wtN_at (k i : Nat) (h : i < k) : (wtN k)[i]? = some (.int .i64 (waitI (i : Int))) := by
  induction k with
  | zero => omega
  | succ k ih =>
    by_cases e : i = k
    · subst e
      simp [wtN, wtN_len]
    · rw [wtN, List.getElem?_append_left (by rw [wtN_len]; omega)]
      exact ih (by omega)
theorem wt_step {w wr w1 : World} {k : Nat} {u v' : Value} {o : Obj} (hown : wr.ownsRow w.heap.size 3 1 u k (wtN k)) (hbel : Below w.heap.size w wr)
    (hown1 : w1.ownsRow w.heap.size 3 1 v' (k + 1) (wtN k ++ [.int .i64 (waitI (k : Int))])) (hgrow : (wr.alloc o).grownBy w1 u.ownBlock) :
    w1.ownsRow w.heap.size 3 1 v' (k + 1) (wtN (k + 1)) ∧ Below w.heap.size w w1 := by
  have hsz := hbel.size
  exact ⟨hown1, (hbel.alloc (by omega) _).grown hgrow (by simp; omega) (fun g hg => (hown.lt g hg).1)⟩
theorem infoSI : (Tryd.prog.info? 3).map (fun i => (i.zero, i.size, i.bytes)) = some (some (.int .i64 0), 1, 8) := by kernel_rfl
set_option maxRecDepth 100000 in
theorem table_spec (w : World) : Calls Tryd.prog 5 #[] w fun e w' => ∃ v, e = .returned v ∧ w'.ownsRow w.heap.size 3 1 v 640 (wtN 640) ∧ Below w.heap.size w w' := by
  obtain ⟨i0, hi0, hz0, hz1, hz2⟩ := info_parts infoSI
  go_enter Tryd.func5, Tryd.ntmps5
  go_wp2
  go_loopw [1, 2] (fun v i wr => ∃ k : Nat, k ≤ 640 ∧ i = .int .i64 k ∧ wr.ownsRow w.heap.size 3 1 v k (wtN k) ∧ Below w.heap.size w wr) (fun _ i _ => 640 - (intOf i).toNat)
  case atStart => exact ⟨0, Nat.zero_le _, rfl, World.ownsRow_lit w #[] 0 (Nat.le_refl _) (by decide) rfl, (Below.refl _ _).alloc (Nat.le_refl _) _⟩
  case round =>
    obtain ⟨k, hk, rfl, hown, hbel⟩ := hrel
    by_cases hlt : k < 640
    · have hsz := hbel.size
      go_wp2_with (first | (go_at_call 12; refine (waits_spec _ _ (by omega) (by omega)).mono ?_; rintro e w' ⟨rfl, rfl⟩) | (at_builtin; refine wpList_append_lies _ rfl _ _ 22 rfl w.heap.size 3 i0 _ 1 8 Tryd.underlying22 hi0 hz0 hz1 hz2 rfl (by omega) _ k (wtN k) rfl (hown.alloc _) ⟨_, 0, none⟩ 1 1 [.int .i64 (waitI (k : Int))] rfl rfl (World.news_of_block (cs := #[.int .i64 (waitI (k : Int))]) (t := 3) (fr := (0, 0)) (heap_alloc_new _ _)) (by simp [Value.oneCell']) (by omega) (by unfold maxLen; omega) (by omega) (by simp; omega) _ rfl ?_; intro gg cap w1 hown1 hgrow hat hlt3))
      have R := wt_step hown hbel hown1 hgrow
      clear hown1 hgrow hown
      go_wp2
      go_roundw
      case rel => exact ⟨k + 1, by omega, by go_num, R.1, R.2⟩
      case measure => simp [intOf]; omega
    · obtain rfl : k = 640 := by omega
      go_wp2
      go_ret
      exact ⟨_, rfl, hown, hbel⟩
end Go.Proofs.YtllcffakpobdlakDoor
