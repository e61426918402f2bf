/- An iterator that yields each T of a frame, by its contract: all of them in their order, or a part where a round has said no more. -/
import Derived.RangeFuncBox
import Derived.RangeFuncCalls
import Derived.RangeFuncLeaves
import Derived.Shelf.Abstract
import Derived.Shelf.RegionOpen
import Derived.OwnWalkIn
import Derived.TacticsInMore
import Derived.LoopNIn
import Derived.LoopIn
import Derived.Maps.AppendAt
import Derived.Test.YtllcffakpobdlabDoorSa
import Derived.KernelRfl
namespace Go.Proofs.YtllcffakpobdlabDoor
open Go.RowKit Go.Shelf
attribute [local go_sem] Oper.semAt_some
set_option linter.unusedVariables false

abbrev T640 := { t : Nat // t < 640 }
/-- the first k T of a frame -/
def ts : Nat → List T640
  | 0 => []
  | k + 1 => if h : k < 640 then ts k ++ [⟨k, h⟩] else ts k
theorem ts_succ (k : Nat) (h : k < 640) : ts (k + 1) = ts k ++ [⟨k, h⟩] := by simp [ts, h]
theorem ts_len (k : Nat) (h : k ≤ 640) : (ts k).length = k := by
  induction k with
  | zero => rfl
  | succ k ih => rw [ts_succ k (by omega), List.length_append, ih (by omega)]; rfl
theorem ts_pre (k m : Nat) (h : k ≤ m) (hm : m ≤ 640) : ts k <+: ts m := by
  induction m with
  | zero =>
    obtain rfl : k = 0 := by omega
    exact List.prefix_refl _
  | succ m ih =>
    by_cases e : k = m + 1
    · rw [e]
      exact List.prefix_refl _
    · rw [ts_succ m (by omega)]
      exact (ih (by omega) (by omega)).trans (List.prefix_append _ _)

set_option maxRecDepth 100000 in
set_option maxHeartbeats 1000000 in
theorem ts_in (F : Fence) (n : Nat) (hf : F.fn 33) (hro : F.round = none) (hn : 1 ≤ n) (l n₀ : Nat) (J Jx : List T640 → World → Prop)
    (hY : ∀ pre (x : T640) W, J pre W → pre.length < 640 → YieldAt F (n - 1) Tryd.prog l #[.int .i64 (x.val : Int)] W fun e W' =>
      (e = .returned (.bool true) ∧ J (pre ++ [x]) W' ∧ Below n₀ W W') ∨ (e = .returned (.bool false) ∧ Jx (pre ++ [x]) W'))
    (W : World) (h0 : J [] W) :
    CallsIn F n Tryd.prog 33 #[.func (.yield l) #[] #[]] W fun e W' => (∃ v, e = .returned v) ∧
      ((∃ ys, ys = ts 640 ∧ J ys W') ∨ (∃ pre, pre <+: ts 640 ∧ Jx pre W')) := by
  refine callsIn_of_wp Tryd.func33 rfl hf ?_ hro
  simp only [Tryd.ntmps33, List.size_toArray, List.length_cons, List.length_nil, Nat.reduceAdd, Nat.reduceSub, Array.replicate_succ, Array.replicate_zero, List.push_toArray, List.append_toArray, List.nil_append, List.cons_append]
  gi_wp2
  gi_loopw [3] (fun i wr => ∃ k : Nat, k ≤ 640 ∧ i = .int .i64 k ∧ J (ts k) wr) (fun i _ => 640 - (intOf i).toNat)
  case atStart => exact ⟨0, by omega, rfl, h0⟩
  case round =>
    obtain ⟨k, hk, rfl, hJ⟩ := hrel
    by_cases hlt : k < 640
    · obtain ⟨fn, tmps, assign, body, hy, hR⟩ := hY (ts k) ⟨k, hlt⟩ wr hJ (by rw [ts_len k hk]; exact hlt)
      dsimp only at hy
      gi_wp2
      refine hR.mono ?_
      rintro e W3 (⟨rfl, hJ3, hk3⟩ | ⟨rfl, hJx3⟩)
      · gi_wp2
        go_roundw
        case rel => exact ⟨k + 1, by omega, by go_num, by rw [ts_succ k hlt]; exact hJ3⟩
        case measure => simp [intOf]; omega
      · gi_wp2
        refine bodyPost_ret (results_none rfl _ _ _) rfl ?_
        exact ⟨⟨_, rfl⟩, .inr ⟨ts k ++ [⟨k, hlt⟩], by rw [← ts_succ k hlt]; exact ts_pre _ _ (by omega) (by omega), hJx3⟩⟩
    · obtain rfl : k = 640 := by omega
      gi_wp2
      go_end0
      exact ⟨⟨_, rfl⟩, .inl ⟨_, rfl, hJ⟩⟩

theorem ts_stops (F : Fence) (n : Nat) (hf : F.fn 33) (hro : F.round = none) (hn : 1 ≤ n) (n₀ : Nat) (w : World) :
    SeqStopsK F n Tryd.prog 33 #[] (fun x : T640 => #[Value.int .i64 (x.val : Int)]) (Below n₀) (fun ys => ys = ts 640) (fun pre => pre <+: ts 640) 640 w := fun l J Jx W hW _ _ hY h0 =>
  ts_in F n hf hro hn l n₀ J Jx hY W h0
end Go.Proofs.YtllcffakpobdlabDoor
