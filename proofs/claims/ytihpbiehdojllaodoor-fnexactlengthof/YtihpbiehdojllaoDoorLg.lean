/- How long a cycle is: what the specification and the program answer. -/
import Derived.Test.YtihpbiehdojllaoDoorBase
import Derived.Test.YtihpbiehdojllaoDoorIn
import Derived.LaidMore
import Derived.OpenShut
import Derived.Stop.Joined
namespace Go.Proofs.YtihpbiehdojllaoDoor
open Go.ChangeShapes Go.WideShapes Go.ChangeAt Go.RowKit
set_option linter.unusedVariables false
set_option linter.unusedSimpArgs false

theorem hidL {p : Prop} (h : p) : Hid p := h
def lenI (k : Int) : Int := if k = 1 ∨ k = 4 ∨ k = 5 then 4 else 3
def len2 (k : Int) : Value := if inB k 1 5 = true then .tuple #[.int .i64 (lenI k), .int .i64 0] else .tuple #[.int .i64 0, .int .i64 4]
theorem five_of {k : Int} (h : inB k 1 5 = true) : k = 1 ∨ k = 2 ∨ k = 3 ∨ k = 4 ∨ k = 5 := by
  simp [inB] at h
  omega
theorem length_spec (k : Int) (w : World) : Calls Tryd.prog 4 #[.int .i64 k] w fun e w' => e = .returned (len2 k) ∧ Below w.heap.size w w' := by
  cases h : inB k 1 5
  · have e : len2 k = .tuple #[.int .i64 0, .int .i64 4] := by unfold len2; rw [h]; rfl
    rw [e]
    clear e
    go_enter Tryd.func4, Tryd.ntmps4
    go_wp2_with (go_at_call 6; refine (in_spec _ _ _ _).mono ?_; rintro e w' ⟨rfl, rfl⟩; rw [h])
    go_ret2
    exact ⟨rfl, Below.refl _ _⟩
  · rcases five_of h with rfl | rfl | rfl | rfl | rfl
    all_goals
      go_enter Tryd.func4, Tryd.ntmps4
      go_wp2_with (first | (go_at_call 6; refine (in_spec _ _ _ _).mono ?_; rintro e w' ⟨rfl, rfl⟩; rw [h]) | (go_at_call 7; go_in))
      go_ret2
      exact ⟨rfl, (Below.refl _ _).alloc (Nat.le_refl _) _⟩
def tmI (k : Nat) : Int := if k = 0 then 0 else lenI k
/-- the program's table of lengths, in its block -/
def Times (w : World) : Prop := ∀ k, k < 6 → w.cell? ⟨0, k, none⟩ = some (.int .i64 (tmI k))
theorem Times.below {w w' : World} (h : Times w) (hb : Below w.heap.size w w') : Times w' := fun k hk => by
  rw [hb.cell (p := ⟨0, k, none⟩) (World.block_lt_of_cell? w _ (h k hk))]
  exact h k hk
theorem withinL_impl (n a b : Int) (w : World) : Calls Tryd.prog 8 #[.int .i64 n, .int .i64 a, .int .i64 b] w fun e w' => e = .returned (.bool (inB n a b)) ∧ w' = w := by
  go_enter Tryd.func8, Tryd.ntmps8
  go_wp2
  all_goals go_ret
  all_goals exact ⟨ret_bool (by rw [Bool.eq_iff_iff]; simp [inB]; try omega), rfl⟩
theorem length_impl (k : Int) (w : World) (hT : Times w) : Calls Tryd.prog 5 #[.int .i64 k] w fun e w' => e = .returned (len2 k) ∧ w' = w := by
  cases h : inB k 1 5
  · have e : len2 k = .tuple #[.int .i64 0, .int .i64 4] := by unfold len2; rw [h]; rfl
    rw [e]
    clear e
    replace hT := hidL hT
    go_enter Tryd.func5, Tryd.ntmps5
    go_wp2_with (go_at_call 8; refine (withinL_impl _ _ _ _).mono ?_; rintro e w' ⟨rfl, rfl⟩; rw [h])
    go_ret2
    exact ⟨rfl, rfl⟩
  · have t1 := hT 1 (by omega)
    have t2 := hT 2 (by omega)
    have t3 := hT 3 (by omega)
    have t4 := hT 4 (by omega)
    have t5 := hT 5 (by omega)
    replace hT := hidL hT
    rcases five_of h with rfl | rfl | rfl | rfl | rfl
    all_goals
      go_enter Tryd.func5, Tryd.ntmps5
      go_wp2_with (go_at_call 8; refine (withinL_impl _ _ _ _).mono ?_; rintro e w' ⟨rfl, rfl⟩; rw [h])
      go_ret2
      exact ⟨rfl, rfl⟩
end Go.Proofs.YtihpbiehdojllaoDoor
