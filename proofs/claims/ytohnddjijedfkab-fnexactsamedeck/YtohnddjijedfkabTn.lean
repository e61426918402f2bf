/- What TakeBytes, TakeByte and TakeWord answer, the program's own and the specification's: the same, made out of takeV; new blocks at most. -/
import Derived.Test.YtohnddjijedfkabTm
namespace Go.Proofs.Ytohnddjijedfkab
open Go.ChangeShapes Go.WideShapes Go.ChangeAt Go.RowKit
set_option linter.unusedVariables false
set_option linter.unusedSimpArgs false

theorem takeV_code (s : ByteArray) (a n : Int) : (takeV s a n).2.2 = 0 ∨ (takeV s a n).2.2 = 1 ∨ (takeV s a n).2.2 = 4 ∨ (takeV s a n).2.2 = 9 := by
  unfold takeV
  repeat' split
  all_goals simp
theorem takeV_size (s : ByteArray) (a : Int) (n : Nat) (h : (takeV s a n).2.2 = 0) : (takeV s a n).2.1.size = n ∧ (takeV s a n).1.1 = s ∧ 0 ≤ a ∧ a + n ≤ s.size ∧ (takeV s a n).1.2 = a + n ∧ (takeV s a n).2.1 = s.extract a.toNat (a + n).toNat := by
  unfold takeV at h ⊢
  split at h
  · simp at h
  · rename_i h1
    obtain ⟨_, h2, h3⟩ := stB_yes (by simpa using h1)
    split at h
    · simp at h
    · split at h
      · simp at h
      · rename_i h4 h5
        rw [if_neg h1, if_neg h4, if_neg h5]
        refine ⟨?_, rfl, h2, by omega, rfl, rfl⟩
        simp [ByteArray.size_extract]
        omega
def tbV (X : (ByteArray × Int) × ByteArray × Int) : Value := .tuple #[cur X.1.1 X.1.2, .int .i64 (if X.2.2 = 0 then byt X.2.1 0 else 0), .int .i64 X.2.2]
def twV (X : (ByteArray × Int) × ByteArray × Int) : Value := .tuple #[cur X.1.1 X.1.2, .int .i64 (if X.2.2 = 0 then byt X.2.1 0 + 256 * byt X.2.1 1 else 0), .int .i64 X.2.2]

end Go.Proofs.Ytohnddjijedfkab
