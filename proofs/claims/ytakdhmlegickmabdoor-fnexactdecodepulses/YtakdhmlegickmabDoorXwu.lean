/- Plain facts of pilots. -/
import Derived.Test.YtakdhmlegickmabDoorVau
namespace Go.Proofs.YtakdhmlegickmabDoor
open Go.ChangeShapes Go.WideShapes Go.ChangeAt Go.RowKit
set_option linter.unusedVariables false
set_option linter.unusedSimpArgs false

theorem pilC_inW : ∀ (P : List Int) (k : Nat), k < pilC P → k < P.length ∧ 42 < P.getD k 0 ∧ P.getD k 0 < 200
  | [], k, h => by unfold pilC at h; omega
  | x :: r, k, h => by
    unfold pilC at h
    split at h
    · rename_i hx
      cases k with
      | zero => exact ⟨by simp, by simpa using hx⟩
      | succ k =>
        have := pilC_inW r k (by omega)
        exact ⟨by simp; omega, by simpa using this.2⟩
    · omega
theorem pilC_atW : ∀ (P : List Int), pilC P < P.length → ¬ (42 < P.getD (pilC P) 0 ∧ P.getD (pilC P) 0 < 200)
  | [], h => by simp at h
  | x :: r, h => by
    by_cases hx : 42 < x ∧ x < 200
    · have e : pilC (x :: r) = pilC r + 1 := by rw [pilC, if_pos hx]
      rw [e] at h ⊢
      have := pilC_atW r (by simpa using h)
      simpa using this
    · have e : pilC (x :: r) = 0 := by rw [pilC, if_neg hx]
      rw [e]
      simpa using hx
theorem drop_getDW (P : List Int) (n i : Nat) : (P.drop n).getD i 0 = P.getD (n + i) 0 := by
  rw [List.getD_eq_getElem?_getD, List.getElem?_drop, List.getD_eq_getElem?_getD]
end Go.Proofs.YtakdhmlegickmabDoor
