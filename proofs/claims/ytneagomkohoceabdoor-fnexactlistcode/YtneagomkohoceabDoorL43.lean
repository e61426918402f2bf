/- What the takers of a cursor answer, the program's own and the specification's: both are takeV; new blocks at most. -/
import Derived.Test.YtneagomkohoceabDoorL05
import Derived.Test.YtneagomkohoceabDoorL42
import Derived.Deep.RegionWith
import Derived.Deep.RegionHeld3
import Derived.WalkSpells
import Derived.OneCell
namespace Go.Proofs.YtneagomkohoceabDoor
open Go.ChangeShapes Go.WideShapes Go.ChangeAt Go.RowKit
set_option linter.unusedVariables false
set_option linter.unusedSimpArgs false

/-- the cursor stands in its data -/
def stB (s : ByteArray) (a : Int) : Bool := decide (s.size ≤ 65536 ∧ 0 ≤ a ∧ a ≤ s.size)
theorem stB_yes {s : ByteArray} {a : Int} (h : stB s a = true) : s.size ≤ 65536 ∧ 0 ≤ a ∧ a ≤ s.size := by simpa [stB] using h
theorem stB_no {s : ByteArray} {a : Int} (h : stB s a = false) : ¬ (s.size ≤ 65536 ∧ 0 ≤ a ∧ a ≤ s.size) := by simpa [stB] using h
abbrev cur (s : ByteArray) (a : Int) : Value := .agg #[.string s, .int .i64 a]

/-- the cursor behind what is taken, what is taken, the code -/
def takeV (s : ByteArray) (a n : Int) : (ByteArray × Int) × ByteArray × Int :=
  if stB s a = false then ((ByteArray.empty, 0), ByteArray.empty, 1)
  else if n < 0 ∨ 65536 < n then ((ByteArray.empty, 0), ByteArray.empty, 4)
  else if (s.size : Int) < a + n then ((s, a), ByteArray.empty, 9)
  else ((s, a + n), s.extract a.toNat (a + n).toNat, 0)
def takeT (x : (ByteArray × Int) × ByteArray × Int) : Value := .tuple #[cur x.1.1 x.1.2, .string x.2.1, .int .i64 x.2.2]

end Go.Proofs.YtneagomkohoceabDoor

/- What the cursor's own method take answers, and TakeBytes, TakeByte, TakeWord over it. -/
namespace Go.Proofs.YtneagomkohoceabDoor
open Go.ChangeShapes Go.WideShapes Go.ChangeAt Go.RowKit
set_option linter.unusedVariables false
set_option linter.unusedSimpArgs false
end Go.Proofs.YtneagomkohoceabDoor

/- What TakeBytes, TakeByte and TakeWord answer, the program's own and the specification's: the same, made out of takeV; new blocks at most. -/
namespace Go.Proofs.YtneagomkohoceabDoor
open Go.ChangeShapes Go.WideShapes Go.ChangeAt Go.RowKit
set_option linter.unusedVariables false
set_option linter.unusedSimpArgs false

theorem takeV_code (s : ByteArray) (a n : Int) : (takeV s a n).2.2 = 0 ∨ (takeV s a n).2.2 = 1 ∨ (takeV s a n).2.2 = 4 ∨ (takeV s a n).2.2 = 9 := by
  unfold takeV
  repeat' split
  all_goals simp
theorem takeV_size (s : ByteArray) (a : Int) (n : Nat) (h : (takeV s a n).2.2 = 0) : (takeV s a n).2.1.size = n ∧ (takeV s a n).1.1 = s ∧ 0 ≤ a ∧ a + n ≤ s.size ∧ (takeV s a n).1.2 = a + n ∧ (takeV s a n).2.1 = s.extract a.toNat (a + n).toNat := by
  unfold takeV at h ⊢
  split at h
  · simp at h
  · rename_i h1
    obtain ⟨_, h2, h3⟩ := stB_yes (by simpa using h1)
    split at h
    · simp at h
    · split at h
      · simp at h
      · rename_i h4 h5
        rw [if_neg h1, if_neg h4, if_neg h5]
        refine ⟨?_, rfl, h2, by omega, rfl, rfl⟩
        simp [ByteArray.size_extract]
        omega
def tbV (X : (ByteArray × Int) × ByteArray × Int) : Value := .tuple #[cur X.1.1 X.1.2, .int .i64 (if X.2.2 = 0 then byt X.2.1 0 else 0), .int .i64 X.2.2]
def twV (X : (ByteArray × Int) × ByteArray × Int) : Value := .tuple #[cur X.1.1 X.1.2, .int .i64 (if X.2.2 = 0 then byt X.2.1 0 + 256 * byt X.2.1 1 else 0), .int .i64 X.2.2]

end Go.Proofs.YtneagomkohoceabDoor

/- What the specification's TakeBytes, TakeByte and TakeWord answer, and the laws' own helpers over cursors. -/
namespace Go.Proofs.YtneagomkohoceabDoor
open Go.ChangeShapes Go.WideShapes Go.ChangeAt Go.RowKit
set_option linter.unusedVariables false
set_option linter.unusedSimpArgs false
end Go.Proofs.YtneagomkohoceabDoor
