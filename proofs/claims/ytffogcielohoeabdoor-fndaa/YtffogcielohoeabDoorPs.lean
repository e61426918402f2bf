/- What the program's Add8, Sub8, Inc8 and Dec8 answer as they are asked: what the specification's answer. -/
import Derived.Test.YtffogcielohoeabDoorPr
import Derived.Test.YtffogcielohoeabDoorAh
namespace Go.Proofs.YtffogcielohoeabDoor
open Go.ChangeShapes Go.WideShapes Go.ChangeAt Go.RowKit
set_option linter.unusedVariables false

theorem add8_impl (a b c : Int) (w : World) (hL : Flags w) : Calls Tryd.prog 5 #[.int .i64 a, .int .i64 b, .int .i64 c] w fun e w' => e = .returned (add8V a b c) ∧ w' = w := by
  cases h : askB a b c
  · have e : add8V a b c = no3 := by unfold add8V; rw [h]; rfl
    rw [e]
    cases h1 : (inB a 0 255 && inB b 0 255)
    · go_enter Tryd.func5, Tryd.ntmps5
      go_wp2_with (first | (go_at_call 9; refine (bytes_impl _ _ _).mono ?_; rintro e w' ⟨rfl, rfl⟩; rw [h1]) | (go_at_call 10; refine (within_impl _ _ _ _).mono ?_; rintro e w' ⟨rfl, rfl⟩))
      go_ret3
      exact ⟨rfl, rfl⟩
    · have h2 : inB c 0 1 = false := by unfold askB at h; rw [h1] at h; exact h
      go_enter Tryd.func5, Tryd.ntmps5
      go_wp2_with (first | (go_at_call 9; refine (bytes_impl _ _ _).mono ?_; rintro e w' ⟨rfl, rfl⟩; rw [h1]) | (go_at_call 10; refine (within_impl _ _ _ _).mono ?_; rintro e w' ⟨rfl, rfl⟩; rw [h2]))
      go_ret3
      exact ⟨rfl, rfl⟩
  · have e : add8V a b c = .tuple #[.int .i64 (addV a.toNat b.toNat c.toNat), .int .i64 (addF a.toNat b.toNat c.toNat), .int .i64 0] := by unfold add8V; rw [h]; rfl
    rw [e]
    have h' := h
    unfold askB at h'
    rw [Bool.and_eq_true] at h'
    obtain ⟨h1, h2⟩ := h'
    obtain ⟨x, y, z, rfl, rfl, rfl, hx, hy, hz⟩ := askB_yes h
    simp only [Int.toNat_natCast]
    clear e h
    go_enter Tryd.func5, Tryd.ntmps5
    go_wp2_with (first | (go_at_call 9; refine (bytes_impl _ _ _).mono ?_; rintro e w' ⟨rfl, rfl⟩; rw [h1]) | (go_at_call 10; refine (within_impl _ _ _ _).mono ?_; rintro e w' ⟨rfl, rfl⟩; rw [h2]) | (go_at_call 11; refine (rk_add _ _ _ _ hx hy hz hL).mono ?_; rintro e w' ⟨rfl, rfl⟩))
    go_ret3
    exact ⟨rfl, rfl⟩

theorem sub8_impl (a b c : Int) (w : World) (hL : Flags w) : Calls Tryd.prog 7 #[.int .i64 a, .int .i64 b, .int .i64 c] w fun e w' => e = .returned (sub8V a b c) ∧ w' = w := by
  cases h : askB a b c
  · have e : sub8V a b c = no3 := by unfold sub8V; rw [h]; rfl
    rw [e]
    cases h1 : (inB a 0 255 && inB b 0 255)
    · go_enter Tryd.func7, Tryd.ntmps7
      go_wp2_with (first | (go_at_call 9; refine (bytes_impl _ _ _).mono ?_; rintro e w' ⟨rfl, rfl⟩; rw [h1]) | (go_at_call 10; refine (within_impl _ _ _ _).mono ?_; rintro e w' ⟨rfl, rfl⟩))
      go_ret3
      exact ⟨rfl, rfl⟩
    · have h2 : inB c 0 1 = false := by unfold askB at h; rw [h1] at h; exact h
      go_enter Tryd.func7, Tryd.ntmps7
      go_wp2_with (first | (go_at_call 9; refine (bytes_impl _ _ _).mono ?_; rintro e w' ⟨rfl, rfl⟩; rw [h1]) | (go_at_call 10; refine (within_impl _ _ _ _).mono ?_; rintro e w' ⟨rfl, rfl⟩; rw [h2]))
      go_ret3
      exact ⟨rfl, rfl⟩
  · have e : sub8V a b c = .tuple #[.int .i64 (subV a.toNat b.toNat c.toNat), .int .i64 (subF a.toNat b.toNat c.toNat), .int .i64 0] := by unfold sub8V; rw [h]; rfl
    rw [e]
    have h' := h
    unfold askB at h'
    rw [Bool.and_eq_true] at h'
    obtain ⟨h1, h2⟩ := h'
    obtain ⟨x, y, z, rfl, rfl, rfl, hx, hy, hz⟩ := askB_yes h
    simp only [Int.toNat_natCast]
    clear e h
    have r : bits .or .i64 ((subG x y z : Nat) : Int) 2 = (subF x y z : Nat) := by
      have hg := subG_lt x y z
      rw [← subG_F]
      exact bOr (subG x y z) 2 (by omega) (by omega)
    go_enter Tryd.func7, Tryd.ntmps7
    go_wp2_with (first | (go_at_call 9; refine (bytes_impl _ _ _).mono ?_; rintro e w' ⟨rfl, rfl⟩; rw [h1]) | (go_at_call 10; refine (within_impl _ _ _ _).mono ?_; rintro e w' ⟨rfl, rfl⟩; rw [h2]) | (go_at_call 11; refine (rk_sub _ _ _ _ hx hy hz hL).mono ?_; rintro e w' ⟨rfl, rfl⟩))
    go_ret3
    exact ⟨rfl, rfl⟩


end Go.Proofs.YtffogcielohoeabDoor
