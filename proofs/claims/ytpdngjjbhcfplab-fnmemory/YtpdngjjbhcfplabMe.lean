/- What the exact laws' helpers over memories answer: equal ones are told equal, marks are held, sizes taken off, a copy is made in blocks of its own. -/
import Derived.Test.YtpdngjjbhcfplabMd
import Derived.Test.YtpdngjjbhcfplabBl
namespace Go.Proofs.Ytpdngjjbhcfplab
open Go.ChangeShapes Go.WideShapes Go.ChangeAt Go.RowKit
set_option linter.unusedVariables false

/-- a memory that is not too great for the laws -/
def Small (M : Mem) : Prop := M.rom.length ≤ 2000000 ∧ M.ram.length ≤ 2000000 ∧ pre M.ram M.ram.length ≤ 2000000
theorem Small.rows {M : Mem} (h : Small M) : ∀ i, i < M.ram.length → (M.ram.getD i []).length ≤ 1000000000 := fun i hi => by
  have := row_le_pre M.ram i hi
  have := h.2.2
  omega
def Big (M : Mem) : Prop := M.rom.length ≤ maxLen ∧ M.ram.length ≤ maxLen ∧ ∀ i, i < M.ram.length → (M.ram.getD i []).length ≤ maxLen
/-- how many numbers a memory has -/
def cntM (M : Mem) : Nat := M.rom.length + pre M.ram M.ram.length
def markM (M : Mem) (m : Int) : Mem := { M with rom := markL m M.rom.length, ram := mrL M.ram (m + (M.rom.length : Nat)) M.ram.length }
theorem RowR.form {w : World} {v : Value} {zs : List Int} (h : RowR w v zs) : ∃ a cap, v = .slice a zs.length cap := by
  obtain ⟨a, cap, h, _⟩ := h
  exact ⟨a, cap, h⟩
theorem RowsR.form {w : World} {v : Value} {zss : List (List Int)} (h : RowsR w v zss) : ∃ a cap, v = .slice a zss.length cap := by
  obtain ⟨a, cap, h, _⟩ := h
  exact ⟨a, cap, h⟩

end Go.Proofs.Ytpdngjjbhcfplab
