/-
  NARROWER THAN 'FOR EVERY INPUT', by the rows' own cells (each row's printed sentence says how): FnExactTurn8: laid · FnExactDaa8: laid · FnExactWaitsAt: laid.
  DERIVED. THE GIVEN ROWS OF THIS SEAT. 3 by the template 'for every input the law returns true; each argument reads behind the call as it read before'; 0 by the template 'total and deterministic' (their statements: YtllcffakpobdlajDoorTotals.lean).
  GIVEN WITH THE SEED: the statements are not yours to turn. If you find one false, say at which input.
  Laid BY PROGRAM, IN A SANDBOX (cutbox-rows.mjs): the forced cells as the released guide's own fill.sh prints them over the translation d094980129db576b… (all of the seat's roots in one cut). By AI agents, Wed Nov 11 2026. No macro, syntax, notation, axiom, sorry.
-/
import Derived.Test.YtllcffakpobdlajDoorChecked
import GoSem.Claim
import GoSem.ClaimJoined
import GoSem.ClaimMapViews
import Derived.JoinedTies
import Derived.KernelRfl
namespace Go.Proofs.YtllcffakpobdlajDoor
/- THE CELL 'sum', in the pinned program and in every row, IS THE sha256 OF THE DUMP (.gsa) THAT YtllcffakpobdlajDoorProg.lean LOADS. Nothing in Lean hashes anything: it is a label: what it is worth is what the hold of that sum in a sandbox is worth. -/
noncomputable def Tryd.pinned : Pinned := { name := "ytllcffakpobdlajdoor", sum := "d094980129db576b76d69935d582c9ceeb8a592c41fbda33d116945bef202215", checked := Tryd.checked }
namespace Rows
def none {H : Type} : Left H := { results := [], args := [] }

/- WHAT THE LISTED PACKAGE-LEVEL VARIABLES READ AS WHEN THE CALL BEGINS. Each datum BY PROGRAM (the guide's laid-datum.mjs) off the statement by which the dump's own 'gosem.cut.vars' lays the variable. In a bare row this is a premise. The card (YtllcffakpobdlajDoorCards.lean) ties it to the program's text. -/
def laid_loop_example_g00644_impl_copiedFlags {H : Type} : DataW H := .agg [.lit (.int .i64 128), .lit (.int .i64 32), .lit (.int .i64 8)]
def laid_loop_example_g00644_impl_waitPattern {H : Type} : DataW H := .agg [.lit (.int .i64 6), .lit (.int .i64 5), .lit (.int .i64 4), .lit (.int .i64 3), .lit (.int .i64 2), .lit (.int .i64 1), .lit (.int .i64 0), .lit (.int .i64 0)]

/-- 'laws.FnExactTurn8': WHATEVER THE INPUT: true; the input reads as it did. -/
def fnExactTurn8Spec : ChangeSpec := { name := "fnExactTurn8", vars := ["loop.example/g00644/impl.copiedFlags"], fn := fun _ => fun
  | [d1, d2, d3, g1] => { results := [.lit (.bool true)], args := [d1, d2, d3], vars := [g1] }
  | _ => none }
def fnExactTurn8Row : OpenClaim := { program := "ytllcffakpobdlajdoor", sum := "d094980129db576b76d69935d582c9ceeb8a592c41fbda33d116945bef202215", func := "loop.example/g00644/laws.FnExactTurn8", spec := "fnExactTurn8", unfollowed := true, recurses := true, named := ["loop.example/g00644/impl.copiedFlags"], apart := false, laid := [("loop.example/g00644/impl.copiedFlags", laid_loop_example_g00644_impl_copiedFlags)] }
def FnExactTurn8Said : Prop := fnExactTurn8Row.holds Tryd.pinned (OpenSpec.ofChange fnExactTurn8Spec)

/-- ITS FALSE NEIGHBOUR: 'it returns false'. Refute it at one input. -/
def fnExactTurn8Wrong : ChangeSpec := { name := "fnExactTurn8", vars := ["loop.example/g00644/impl.copiedFlags"], fn := fun _ => fun
  | [d1, d2, d3, g1] => { results := [.lit (.bool false)], args := [d1, d2, d3], vars := [g1] }
  | _ => none }
def FnExactTurn8WrongFalsely : Prop := fnExactTurn8Row.holds Tryd.pinned (OpenSpec.ofChange fnExactTurn8Wrong)

/-- 'laws.FnExactDaa8': WHATEVER THE INPUT: true; the input reads as it did. -/
def fnExactDaa8Spec : ChangeSpec := { name := "fnExactDaa8", vars := ["loop.example/g00644/impl.copiedFlags"], fn := fun _ => fun
  | [d1, d2, g1] => { results := [.lit (.bool true)], args := [d1, d2], vars := [g1] }
  | _ => none }
def fnExactDaa8Row : OpenClaim := { program := "ytllcffakpobdlajdoor", sum := "d094980129db576b76d69935d582c9ceeb8a592c41fbda33d116945bef202215", func := "loop.example/g00644/laws.FnExactDaa8", spec := "fnExactDaa8", unfollowed := true, recurses := true, named := ["loop.example/g00644/impl.copiedFlags"], apart := false, laid := [("loop.example/g00644/impl.copiedFlags", laid_loop_example_g00644_impl_copiedFlags)] }
def FnExactDaa8Said : Prop := fnExactDaa8Row.holds Tryd.pinned (OpenSpec.ofChange fnExactDaa8Spec)

/-- ITS FALSE NEIGHBOUR: 'it returns false'. Refute it at one input. -/
def fnExactDaa8Wrong : ChangeSpec := { name := "fnExactDaa8", vars := ["loop.example/g00644/impl.copiedFlags"], fn := fun _ => fun
  | [d1, d2, g1] => { results := [.lit (.bool false)], args := [d1, d2], vars := [g1] }
  | _ => none }
def FnExactDaa8WrongFalsely : Prop := fnExactDaa8Row.holds Tryd.pinned (OpenSpec.ofChange fnExactDaa8Wrong)

/-- 'laws.FnExactWaitsAt': WHATEVER THE INPUT: true; the input reads as it did. -/
def fnExactWaitsAtSpec : ChangeSpec := { name := "fnExactWaitsAt", vars := ["loop.example/g00644/impl.waitPattern"], fn := fun _ => fun
  | [d, g1] => { results := [.lit (.bool true)], args := [d], vars := [g1] }
  | _ => none }
def fnExactWaitsAtRow : OpenClaim := { program := "ytllcffakpobdlajdoor", sum := "d094980129db576b76d69935d582c9ceeb8a592c41fbda33d116945bef202215", func := "loop.example/g00644/laws.FnExactWaitsAt", spec := "fnExactWaitsAt", named := ["loop.example/g00644/impl.waitPattern"], apart := false, laid := [("loop.example/g00644/impl.waitPattern", laid_loop_example_g00644_impl_waitPattern)] }
def FnExactWaitsAtSaid : Prop := fnExactWaitsAtRow.holds Tryd.pinned (OpenSpec.ofChange fnExactWaitsAtSpec)

/-- ITS FALSE NEIGHBOUR: 'it returns false'. Refute it at one input. -/
def fnExactWaitsAtWrong : ChangeSpec := { name := "fnExactWaitsAt", vars := ["loop.example/g00644/impl.waitPattern"], fn := fun _ => fun
  | [d, g1] => { results := [.lit (.bool false)], args := [d], vars := [g1] }
  | _ => none }
def FnExactWaitsAtWrongFalsely : Prop := fnExactWaitsAtRow.holds Tryd.pinned (OpenSpec.ofChange fnExactWaitsAtWrong)

/- THE SECOND FORM. 'bulk': how many values and letters a reading holds, each counted each time it is reached (what is shared counts as often as it is met; a slice's spare places count too). A statement '..UptoSaid' is the law's where the arguments, and the package variables that the reading takes, are together of bulk at most 1048576: NARROWER than '..Said'. Prove '..Said' where nothing that the law and all that it calls make is longer than what came in: it says more and counts as full. Else prove '..UptoSaid'. A law counts once. -/
mutual
def uptoBulk {H : Type} : DataW H → Nat
  | .lit (.string bytes) => bytes.length + 1
  | .lit _ => 1
  | .nil => 1
  | .ptr d => uptoBulk d + 1
  | .slice elems spare => uptoBulkAll elems + uptoBulkAll spare + 1
  | .agg parts => uptoBulkAll parts + 1
  | .iface _ d => uptoBulk d + 1
  | .map entries => uptoBulkEntries entries + 1
  | .held _ => 1
def uptoBulkAll {H : Type} : List (DataW H) → Nat
  | [] => 0
  | d :: r => uptoBulk d + uptoBulkAll r
def uptoBulkEntries {H : Type} : List (Lit × DataW H) → Nat
  | [] => 0
  | x :: r => uptoBulkEntry x + uptoBulkEntries r
def uptoBulkEntry {H : Type} : Lit × DataW H → Nat
  | (.string bytes, d) => bytes.length + uptoBulk d + 1
  | (_, d) => uptoBulk d + 1
 end
def uptoSmall : (H : Type) → List (DataW H) → Bool := fun _ ds => decide (uptoBulkAll ds ≤ 1048576)
def OpenSpec.upto (s : _root_.Go.ChangeSpec) : _root_.Go.OpenSpec := { _root_.Go.OpenSpec.ofChange s with cond := some uptoSmall }

/-- 'laws.FnExactTurn8', WHERE WHAT IT READS IS OF BULK AT MOST 1048576: true; the input reads as it did. -/
def fnExactTurn8UptoRow : OpenClaim := { program := "ytllcffakpobdlajdoor", sum := "d094980129db576b76d69935d582c9ceeb8a592c41fbda33d116945bef202215", func := "loop.example/g00644/laws.FnExactTurn8", spec := "fnExactTurn8", unfollowed := true, recurses := true, named := ["loop.example/g00644/impl.copiedFlags"], apart := false, laid := [("loop.example/g00644/impl.copiedFlags", laid_loop_example_g00644_impl_copiedFlags)], narrowed := true }
def FnExactTurn8UptoSaid : Prop := fnExactTurn8UptoRow.holds Tryd.pinned (OpenSpec.upto fnExactTurn8Spec)

/-- 'laws.FnExactDaa8', WHERE WHAT IT READS IS OF BULK AT MOST 1048576: true; the input reads as it did. -/
def fnExactDaa8UptoRow : OpenClaim := { program := "ytllcffakpobdlajdoor", sum := "d094980129db576b76d69935d582c9ceeb8a592c41fbda33d116945bef202215", func := "loop.example/g00644/laws.FnExactDaa8", spec := "fnExactDaa8", unfollowed := true, recurses := true, named := ["loop.example/g00644/impl.copiedFlags"], apart := false, laid := [("loop.example/g00644/impl.copiedFlags", laid_loop_example_g00644_impl_copiedFlags)], narrowed := true }
def FnExactDaa8UptoSaid : Prop := fnExactDaa8UptoRow.holds Tryd.pinned (OpenSpec.upto fnExactDaa8Spec)

/-- 'laws.FnExactWaitsAt', WHERE WHAT IT READS IS OF BULK AT MOST 1048576: true; the input reads as it did. -/
def fnExactWaitsAtUptoRow : OpenClaim := { program := "ytllcffakpobdlajdoor", sum := "d094980129db576b76d69935d582c9ceeb8a592c41fbda33d116945bef202215", func := "loop.example/g00644/laws.FnExactWaitsAt", spec := "fnExactWaitsAt", named := ["loop.example/g00644/impl.waitPattern"], apart := false, laid := [("loop.example/g00644/impl.waitPattern", laid_loop_example_g00644_impl_waitPattern)], narrowed := true }
def FnExactWaitsAtUptoSaid : Prop := fnExactWaitsAtUptoRow.holds Tryd.pinned (OpenSpec.upto fnExactWaitsAtSpec)

end Rows
end Go.Proofs.YtllcffakpobdlajDoor
