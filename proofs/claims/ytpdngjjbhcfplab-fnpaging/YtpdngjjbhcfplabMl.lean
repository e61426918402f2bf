/- What the specification answers whether two memories are alike. -/
import Derived.Test.YtpdngjjbhcfplabMg
import Derived.Test.YtpdngjjbhcfplabBl
namespace Go.Proofs.Ytpdngjjbhcfplab
open Go.ChangeShapes Go.WideShapes Go.ChangeAt Go.RowKit
set_option linter.unusedVariables false

/-- both are right, and alike -/
def sameM (A B : Mem) : Bool := okM A && okM B && decide (A.page = B.page) && decide (A.screen = B.screen) && (A.locked == B.locked) && decide (A.rom = B.rom) && decide (A.ram = B.ram)
theorem sameM_no {A B : Mem} (h : okM A = false ∨ okM B = false ∨ ¬ A.page = B.page ∨ ¬ A.screen = B.screen ∨ (A.locked == B.locked) = false ∨ ¬ A.rom = B.rom ∨ ¬ A.ram = B.ram) : sameM A B = false := by
  unfold sameM
  rcases h with h | h | h | h | h | h | h <;> simp [h]
theorem sameM_yes {A B : Mem} (h1 : okM A = true) (h2 : okM B = true) (h3 : A.page = B.page) (h4 : A.screen = B.screen) (h5 : (A.locked == B.locked) = true) (h6 : A.rom = B.rom) (h7 : A.ram = B.ram) : sameM A B = true := by
  unfold sameM
  rw [h1, h2, h5]
  simp [h3, h4, h6, h7]
theorem sameM_eq {A B : Mem} (h : sameM A B = true) : A = B ∧ okM A = true := by
  unfold sameM at h
  simp only [Bool.and_eq_true, decide_eq_true_eq, beq_iff_eq] at h
  obtain ⟨⟨⟨⟨⟨⟨h1, h2⟩, h3⟩, h4⟩, h5⟩, h6⟩, h7⟩ := h
  refine ⟨?_, h1⟩
  cases A
  cases B
  simp_all
end Go.Proofs.Ytpdngjjbhcfplab
