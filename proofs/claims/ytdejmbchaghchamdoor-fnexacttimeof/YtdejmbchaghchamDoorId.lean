/- How often the specification says that an instruction reaches what h points to. -/
import Derived.Test.YtdejmbchaghchamDoorIc
import Derived.Deep.QuietTactic
import Derived.BigQuiet
namespace Go.Proofs.YtdejmbchaghchamDoor
open Go.ChangeShapes Go.WideShapes Go.ChangeAt Go.RowKit
set_option linter.unusedVariables false
set_option linter.unusedSimpArgs false

def reachI (o a b : Int) : Int :=
  if o = 1 then bitI (a == 6) + bitI (b == 6) else if o = 2 then bitI (a == 6) else if o = 5 ∨ o = 10 then bitI (b == 6) else if o = 7 ∨ o = 8 then 2 * bitI (a == 6) else if o = 9 then 2 * bitI (b == 6)
  else if o = 3 ∨ o = 4 ∨ o = 15 ∨ o = 16 then 1 else if o = 22 then 2 else 0
theorem reachI_bd (o a b : Int) : 0 ≤ reachI o a b ∧ reachI o a b ≤ 2 := by
  have h1 := bitI_bd (a == 6)
  have h2 := bitI_bd (b == 6)
  unfold reachI
  repeat' split
  all_goals omega
theorem bitEq {b : Bool} {i : Int} (h : bitI b = i) (w : World) : Calls Tryd.prog 33 #[.bool b] w fun e w' => e = .returned (.int .i64 i) ∧ w' = w := by
  rw [← h]
  exact bit_spec b w
set_option maxRecDepth 100000 in
set_option maxHeartbeats 1000000 in
theorem reach_spec (o a b n l : Int) (w : World) (h0 : 0 ≤ o) (h1 : o ≤ 23) :
    Calls Tryd.prog 48 #[insV o a b n l] w fun e w' => e = .returned (.int .i64 (reachI o a b)) ∧ Below w.heap.size w w' := by
  have hB : Hid (∀ ob, Below w.heap.size w (w.alloc ob)) := fun ob => (Below.refl _ _).alloc (Nat.le_refl _) _
  have hBd : Hid (∀ ob n, Below w.heap.size w ((w.alloc ob).drewN n)) := fun ob n => (hB.out ob).trans (belD _ _ _)
  obtain ⟨pa, hpa⟩ : ∃ x, (a == 6) = x := ⟨_, rfl⟩
  obtain ⟨pb, hpb⟩ : ∃ x, (b == 6) = x := ⟨_, rfl⟩
  obtain ⟨ia, hia⟩ : ∃ x, bitI pa = x := ⟨_, rfl⟩
  obtain ⟨ib, hib⟩ : ∃ x, bitI pb = x := ⟨_, rfl⟩
  have ba : 0 ≤ ia ∧ ia ≤ 1 := by rw [← hia]; exact bitI_bd _
  have bb : 0 ≤ ib ∧ ib ≤ 1 := by rw [← hib]; exact bitI_bd _
  have e : ∀ o, reachI o a b = (if o = 1 then ia + ib else if o = 2 then ia else if o = 5 ∨ o = 10 then ib else if o = 7 ∨ o = 8 then 2 * ia else if o = 9 then 2 * ib else if o = 3 ∨ o = 4 ∨ o = 15 ∨ o = 16 then 1 else if o = 22 then 2 else 0) := fun o => by unfold reachI; rw [hpa, hpb, hia, hib]
  rw [e]
  clear e
  replace hia := hid hia
  replace hib := hid hib
  by_cases ho : o = 1
  · subst ho
    rw [if_pos rfl]
    go_enter Tryd.func48, Tryd.ntmps48
    go_wp2
    go_quiet (first | (go_at_call 33; exact Calls.quiet_of_same (bitEq hia.out _)) | (go_at_call 33; exact Calls.quiet_of_same (bitEq hib.out _)))
    go_wp2
    go_ret
    exact ⟨rfl, hBd.out _ _⟩
  have h24 : o = 0 ∨ o = 2 ∨ o = 3 ∨ o = 4 ∨ o = 5 ∨ o = 6 ∨ o = 7 ∨ o = 8 ∨ o = 9 ∨ o = 10 ∨ o = 11 ∨ o = 12 ∨ o = 13 ∨ o = 14 ∨ o = 15 ∨ o = 16 ∨ o = 17 ∨ o = 18 ∨ o = 19 ∨ o = 20 ∨ o = 21 ∨ o = 22 ∨ o = 23 := by omega
  clear ho h0 h1
  rcases h24 with rfl | rfl | rfl | rfl | rfl | rfl | rfl | rfl | rfl | rfl | rfl | rfl | rfl | rfl | rfl | rfl | rfl | rfl | rfl | rfl | rfl | rfl | rfl
  all_goals
    go_enter Tryd.func48, Tryd.ntmps48
    go_wp2_with (go_at_call 33; refine (bit_spec _ _).mono ?_; rintro e w' ⟨rfl, rfl⟩; (first | rw [hia.out] | rw [hib.out]))
    go_ret
    exact ⟨rfl, hB.out _⟩
end Go.Proofs.YtdejmbchaghchamDoor
