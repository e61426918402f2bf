/- What impl.PutWord and spec.PutWord answer: the text with the word's two bytes behind it, or the codes; new blocks at most. -/
import Derived.Test.YtneagomkohoceabDoorL05
import Derived.WalkKit
import Derived.ProofKit
import Derived.Laws.BytesArg
import Derived.Test.YtneagomkohoceabDoorL41
import Derived.Test.YtneagomkohoceabDoorIwl
import Derived.Test.YtneagomkohoceabDoorBtl
import Derived.BigRegion
import Derived.Test.YtneagomkohoceabDoorBasel
import Derived.LaidEql
import Derived.Stop.Asserts
import Derived.RowKitTokens
namespace Go.Proofs.YtneagomkohoceabDoor
open Go.ChangeShapes Go.WideShapes Go.ChangeAt Go.RowKit
set_option linter.unusedVariables false

theorem conv2 (w : World) (x y : Int) : (convert 148 9 (.slice (some ⟨w.heap.size, 0, none⟩) 2 2)).run Tryd.prog (w.alloc (.cells #[.int .u8 x, .int .u8 y] 5)) = .ok (.string (strOfNums [x, y])) (w.alloc (.cells #[.int .u8 x, .int .u8 y] 5)) :=
  run_convert_bytes_arg _ 148 5 Tryd.underlying148 Tryd.underlying5 w.heap.size 0 2 2 [x, y] rfl (fun i hi => by
    match i, hi with
    | 0, _ => simp
    | 1, _ => simp) 9 Tryd.underlying9

def putV (s : ByteArray) (v : Int) : Value :=
  if 65536 < s.size then .tuple #[.string ByteArray.empty, .int .i64 2]
  else if v < 0 ∨ 65535 < v then .tuple #[.string ByteArray.empty, .int .i64 4]
  else if 65534 < s.size then .tuple #[.string ByteArray.empty, .int .i64 7]
  else .tuple #[.string (s ++ strOfNums [v % 256, v / 256]), .int .i64 0]

theorem putV_form (s : ByteArray) (v : Int) : ∃ S C, putV s v = .tuple #[.string S, .int .i64 C] := by
  unfold putV
  repeat' split
  all_goals exact ⟨_, _, rfl⟩

end Go.Proofs.YtneagomkohoceabDoor

/- The bytes of a block, and its text: the specification. -/
namespace Go.Proofs.YtneagomkohoceabDoor
open Go.ChangeShapes Go.WideShapes Go.ChangeAt Go.RowKit
set_option linter.unusedVariables false
set_option linter.unusedSimpArgs false

theorem conv1 {W : World} {g : Nat} {x : Int} (h : Blk W g #[.int .u8 x]) : (convert 148 9 (.slice (some ⟨g, 0, none⟩) 1 1)).run Tryd.prog W = .ok (.string (strOfNums [x])) W :=
  run_convert_bytes_arg _ 148 5 Tryd.underlying148 Tryd.underlying5 g 0 1 1 [x] rfl (fun i hi => by
    match i, hi with
    | 0, _ => exact h.cell 0) 9 Tryd.underlying9
def txtB2 (f : Int) (s : ByteArray) : ByteArray × Int := if okB f s = true then (txtB f s, 0) else (ByteArray.empty, 1)
end Go.Proofs.YtneagomkohoceabDoor

/- A block out of its bytes: the specification. -/
namespace Go.Proofs.YtneagomkohoceabDoor
open Go.ChangeShapes Go.WideShapes Go.ChangeAt Go.RowKit
set_option linter.unusedVariables false
set_option linter.unusedSimpArgs false

/-- flag, data, code -/
def ofB (t : ByteArray) : (Int × ByteArray) × Int :=
  if t.size < 2 ∨ 42 < t.size then ((0, ByteArray.empty), 8)
  else if xorN t t.size ≠ 0 then ((0, ByteArray.empty), 10)
  else ((byt t 0, t.extract 1 (t.size - 1)), 0)
abbrev ofT (x : (Int × ByteArray) × Int) : Value := .tuple #[bkV x.1.1 x.1.2, .int .i64 x.2]
end Go.Proofs.YtneagomkohoceabDoor

/- errors.Is of errors that errors.New has made: true of the same, false of nil and of another; the world stays as it was. -/
namespace Go.Proofs.YtneagomkohoceabDoor
open Go.RowKit Go.Extern.Stop Go.Stop Go.Extern
set_option linter.unusedVariables false
/-- what the model runs for '(rtype).Comparable' -/
def cmpF : Array Value → Sem Value := Extern.ReflectliteType.method fun t => do Extern.Rtype.noPackHeld "Comparable" t; pure (.bool (← typeInfo t).comparable)
end Go.Proofs.YtneagomkohoceabDoor
