/-
  NARROWER THAN 'FOR EVERY INPUT', by the rows' own cells (each row's printed sentence says how): FnExactWaitTable: laid · FnExactFetchAt: laid.
  DERIVED. THE GIVEN ROWS OF THIS SEAT. 2 by the template 'for every input the law returns true; each argument reads behind the call as it read before'; 0 by the template 'total and deterministic' (their statements: YtllcffakpobdlakDoorTotals.lean).
  GIVEN WITH THE SEED: the statements are not yours to turn. If you find one false, say at which input.
  Laid BY PROGRAM, IN A SANDBOX (cutbox-rows.mjs): the forced cells as the released guide's own fill.sh prints them over the translation e15ce9fbe2d7f970… (all of the seat's roots in one cut). By AI agents, Wed Nov 11 2026. No macro, syntax, notation, axiom, sorry.
-/
import Derived.Test.YtllcffakpobdlakDoorChecked
import GoSem.Claim
import GoSem.ClaimJoined
import GoSem.ClaimMapViews
import Derived.JoinedTies
import Derived.KernelRfl
namespace Go.Proofs.YtllcffakpobdlakDoor
/- THE CELL 'sum', in the pinned program and in every row, IS THE sha256 OF THE DUMP (.gsa) THAT YtllcffakpobdlakDoorProg.lean LOADS. Nothing in Lean hashes anything: it is a label: what it is worth is what the hold of that sum in a sandbox is worth. -/
noncomputable def Tryd.pinned : Pinned := { name := "ytllcffakpobdlakdoor", sum := "e15ce9fbe2d7f9707dc3ef99919573eeaa193666da481fca4faf13ff8ff5bab2", checked := Tryd.checked }
namespace Rows
def none {H : Type} : Left H := { results := [], args := [] }

/- WHAT THE LISTED PACKAGE-LEVEL VARIABLES READ AS WHEN THE CALL BEGINS. Each datum BY PROGRAM (the guide's laid-datum.mjs) off the statement by which the dump's own 'gosem.cut.vars' lays the variable. In a bare row this is a premise. The card (YtllcffakpobdlakDoorCards.lean) ties it to the program's text. -/
def laid_loop_example_g00644_impl_waitPattern {H : Type} : DataW H := .agg [.lit (.int .i64 6), .lit (.int .i64 5), .lit (.int .i64 4), .lit (.int .i64 3), .lit (.int .i64 2), .lit (.int .i64 1), .lit (.int .i64 0), .lit (.int .i64 0)]
def laid_loop_example_g00644_impl_fetchPattern {H : Type} : DataW H := .agg [.lit (.int .i64 0), .lit (.int .i64 32), .lit (.int .i64 (-1)), .lit (.int .i64 (-1))]

/-- 'laws.FnExactWaitTable': WHATEVER THE INPUT: true; the input reads as it did. -/
def fnExactWaitTableSpec : ChangeSpec := { name := "fnExactWaitTable", vars := ["loop.example/g00644/impl.waitPattern"], fn := fun _ => fun
  | [g1] => { results := [.lit (.bool true)], args := [], vars := [g1] }
  | _ => none }
def fnExactWaitTableRow : OpenClaim := { program := "ytllcffakpobdlakdoor", sum := "e15ce9fbe2d7f9707dc3ef99919573eeaa193666da481fca4faf13ff8ff5bab2", func := "loop.example/g00644/laws.FnExactWaitTable", spec := "fnExactWaitTable", unfollowed := true, recurses := true, named := ["loop.example/g00644/impl.waitPattern"], apart := false, laid := [("loop.example/g00644/impl.waitPattern", laid_loop_example_g00644_impl_waitPattern)] }
def FnExactWaitTableSaid : Prop := fnExactWaitTableRow.holds Tryd.pinned (OpenSpec.ofChange fnExactWaitTableSpec)

/-- ITS FALSE NEIGHBOUR: 'it returns false'. Refute it at one input. -/
def fnExactWaitTableWrong : ChangeSpec := { name := "fnExactWaitTable", vars := ["loop.example/g00644/impl.waitPattern"], fn := fun _ => fun
  | [g1] => { results := [.lit (.bool false)], args := [], vars := [g1] }
  | _ => none }
def FnExactWaitTableWrongFalsely : Prop := fnExactWaitTableRow.holds Tryd.pinned (OpenSpec.ofChange fnExactWaitTableWrong)

/-- 'laws.FnExactFetchAt': WHATEVER THE INPUT: true; the input reads as it did. -/
def fnExactFetchAtSpec : ChangeSpec := { name := "fnExactFetchAt", vars := ["loop.example/g00644/impl.fetchPattern"], fn := fun _ => fun
  | [d, g1] => { results := [.lit (.bool true)], args := [d], vars := [g1] }
  | _ => none }
def fnExactFetchAtRow : OpenClaim := { program := "ytllcffakpobdlakdoor", sum := "e15ce9fbe2d7f9707dc3ef99919573eeaa193666da481fca4faf13ff8ff5bab2", func := "loop.example/g00644/laws.FnExactFetchAt", spec := "fnExactFetchAt", named := ["loop.example/g00644/impl.fetchPattern"], apart := false, laid := [("loop.example/g00644/impl.fetchPattern", laid_loop_example_g00644_impl_fetchPattern)] }
def FnExactFetchAtSaid : Prop := fnExactFetchAtRow.holds Tryd.pinned (OpenSpec.ofChange fnExactFetchAtSpec)

/-- ITS FALSE NEIGHBOUR: 'it returns false'. Refute it at one input. -/
def fnExactFetchAtWrong : ChangeSpec := { name := "fnExactFetchAt", vars := ["loop.example/g00644/impl.fetchPattern"], fn := fun _ => fun
  | [d, g1] => { results := [.lit (.bool false)], args := [d], vars := [g1] }
  | _ => none }
def FnExactFetchAtWrongFalsely : Prop := fnExactFetchAtRow.holds Tryd.pinned (OpenSpec.ofChange fnExactFetchAtWrong)

/- THE SECOND FORM. 'bulk': how many values and letters a reading holds, each counted each time it is reached (what is shared counts as often as it is met; a slice's spare places count too). A statement '..UptoSaid' is the law's where the arguments, and the package variables that the reading takes, are together of bulk at most 1048576: NARROWER than '..Said'. Prove '..Said' where nothing that the law and all that it calls make is longer than what came in: it says more and counts as full. Else prove '..UptoSaid'. A law counts once. -/
mutual
def uptoBulk {H : Type} : DataW H → Nat
  | .lit (.string bytes) => bytes.length + 1
  | .lit _ => 1
  | .nil => 1
  | .ptr d => uptoBulk d + 1
  | .slice elems spare => uptoBulkAll elems + uptoBulkAll spare + 1
  | .agg parts => uptoBulkAll parts + 1
  | .iface _ d => uptoBulk d + 1
  | .map entries => uptoBulkEntries entries + 1
  | .held _ => 1
def uptoBulkAll {H : Type} : List (DataW H) → Nat
  | [] => 0
  | d :: r => uptoBulk d + uptoBulkAll r
def uptoBulkEntries {H : Type} : List (Lit × DataW H) → Nat
  | [] => 0
  | x :: r => uptoBulkEntry x + uptoBulkEntries r
def uptoBulkEntry {H : Type} : Lit × DataW H → Nat
  | (.string bytes, d) => bytes.length + uptoBulk d + 1
  | (_, d) => uptoBulk d + 1
 end
def uptoSmall : (H : Type) → List (DataW H) → Bool := fun _ ds => decide (uptoBulkAll ds ≤ 1048576)
def OpenSpec.upto (s : _root_.Go.ChangeSpec) : _root_.Go.OpenSpec := { _root_.Go.OpenSpec.ofChange s with cond := some uptoSmall }

/-- 'laws.FnExactWaitTable', WHERE WHAT IT READS IS OF BULK AT MOST 1048576: true; the input reads as it did. -/
def fnExactWaitTableUptoRow : OpenClaim := { program := "ytllcffakpobdlakdoor", sum := "e15ce9fbe2d7f9707dc3ef99919573eeaa193666da481fca4faf13ff8ff5bab2", func := "loop.example/g00644/laws.FnExactWaitTable", spec := "fnExactWaitTable", unfollowed := true, recurses := true, named := ["loop.example/g00644/impl.waitPattern"], apart := false, laid := [("loop.example/g00644/impl.waitPattern", laid_loop_example_g00644_impl_waitPattern)], narrowed := true }
def FnExactWaitTableUptoSaid : Prop := fnExactWaitTableUptoRow.holds Tryd.pinned (OpenSpec.upto fnExactWaitTableSpec)

/-- 'laws.FnExactFetchAt', WHERE WHAT IT READS IS OF BULK AT MOST 1048576: true; the input reads as it did. -/
def fnExactFetchAtUptoRow : OpenClaim := { program := "ytllcffakpobdlakdoor", sum := "e15ce9fbe2d7f9707dc3ef99919573eeaa193666da481fca4faf13ff8ff5bab2", func := "loop.example/g00644/laws.FnExactFetchAt", spec := "fnExactFetchAt", named := ["loop.example/g00644/impl.fetchPattern"], apart := false, laid := [("loop.example/g00644/impl.fetchPattern", laid_loop_example_g00644_impl_fetchPattern)], narrowed := true }
def FnExactFetchAtUptoSaid : Prop := fnExactFetchAtUptoRow.holds Tryd.pinned (OpenSpec.upto fnExactFetchAtSpec)

end Rows
end Go.Proofs.YtllcffakpobdlakDoor
