/- What the takers of a cursor answer, the program's own and the specification's: both are takeV; new blocks at most. -/
import Derived.Test.YtohnddjijedfkabIn
import Derived.Test.YtohnddjijedfkabIs
import Derived.Deep.RegionWith
import Derived.Deep.RegionHeld3
import Derived.WalkSpells
import Derived.OneCell
namespace Go.Proofs.Ytohnddjijedfkab
open Go.ChangeShapes Go.WideShapes Go.ChangeAt Go.RowKit
set_option linter.unusedVariables false
set_option linter.unusedSimpArgs false

/-- the cursor stands in its data -/
def stB (s : ByteArray) (a : Int) : Bool := decide (s.size ≤ 65536 ∧ 0 ≤ a ∧ a ≤ s.size)
theorem stB_yes {s : ByteArray} {a : Int} (h : stB s a = true) : s.size ≤ 65536 ∧ 0 ≤ a ∧ a ≤ s.size := by simpa [stB] using h
theorem stB_no {s : ByteArray} {a : Int} (h : stB s a = false) : ¬ (s.size ≤ 65536 ∧ 0 ≤ a ∧ a ≤ s.size) := by simpa [stB] using h
abbrev cur (s : ByteArray) (a : Int) : Value := .agg #[.string s, .int .i64 a]

/-- the cursor behind what is taken, what is taken, the code -/
def takeV (s : ByteArray) (a n : Int) : (ByteArray × Int) × ByteArray × Int :=
  if stB s a = false then ((ByteArray.empty, 0), ByteArray.empty, 1)
  else if n < 0 ∨ 65536 < n then ((ByteArray.empty, 0), ByteArray.empty, 4)
  else if (s.size : Int) < a + n then ((s, a), ByteArray.empty, 9)
  else ((s, a + n), s.extract a.toNat (a + n).toNat, 0)
def takeT (x : (ByteArray × Int) × ByteArray × Int) : Value := .tuple #[cur x.1.1 x.1.2, .string x.2.1, .int .i64 x.2.2]

end Go.Proofs.Ytohnddjijedfkab
