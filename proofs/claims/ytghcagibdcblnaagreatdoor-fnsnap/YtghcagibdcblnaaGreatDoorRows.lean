/-
  NARROWER THAN 'FOR EVERY INPUT', by the rows' own cells (each row's printed sentence says how): FnSnap: ifaces, laid.
  DERIVED. THE GIVEN ROWS OF THIS SEAT. 1 by the template 'for every input the law returns true; each argument reads behind the call as it read before'; 0 by the template 'total and deterministic' (their statements: YtghcagibdcblnaaGreatDoorTotals.lean).
  GIVEN WITH THE SEED: the statements are not yours to turn. If you find one false, say at which input.
  Laid BY PROGRAM, IN A SANDBOX (cutbox-rows.mjs): the forced cells as the released guide's own fill.sh prints them over the translation f1db3f2782e09b61… (all of the seat's roots in one cut). By AI agents, Wed Nov 11 2026. No macro, syntax, notation, axiom, sorry.
-/
import Derived.Test.YtghcagibdcblnaaGreatDoorChecked
import GoSem.Claim
import GoSem.ClaimJoined
import GoSem.ClaimMapViews
import Derived.JoinedTies
import Derived.KernelRfl
namespace Go.Proofs.YtghcagibdcblnaaGreatDoor
/- THE CELL 'sum', in the pinned program and in every row, IS THE sha256 OF THE DUMP (.gsa) THAT YtghcagibdcblnaaGreatDoorProg.lean LOADS. Nothing in Lean hashes anything: it is a label: what it is worth is what the hold of that sum in a sandbox is worth. -/
noncomputable def Tryz.pinned : Pinned := { name := "ytghcagibdcblnaagreatdoor", sum := "f1db3f2782e09b6177008a70bff11cba27671b9a1de15b723a87a8dc13800e1c", checked := Tryz.checked }
namespace Rows
def none {H : Type} : Left H := { results := [], args := [] }

/- WHAT THE LISTED PACKAGE-LEVEL VARIABLES READ AS WHEN THE CALL BEGINS. Each datum BY PROGRAM (the guide's laid-datum.mjs) off the statement by which the dump's own 'gosem.cut.vars' lays the variable. In a bare row this is a premise. The card (YtghcagibdcblnaaGreatDoorCards.lean) ties it to the program's text. -/
def laid_loop_example_g00644_impl_errCursor {H : Type} : DataW H := .iface "*errors.errorString" (.ptr (.agg [.lit (.string [116, 104, 101, 32, 99, 117, 114, 115, 111, 114, 32, 100, 111, 101, 115, 32, 110, 111, 116, 32, 115, 116, 97, 110, 100, 32, 105, 110, 32, 105, 116, 115, 32, 100, 97, 116, 97])]))
def laid_loop_example_g00644_impl_errCount {H : Type} : DataW H := .iface "*errors.errorString" (.ptr (.agg [.lit (.string [110, 111, 32, 116, 101, 120, 116, 32, 104, 97, 115, 32, 115, 111, 32, 109, 97, 110, 121, 32, 98, 121, 116, 101, 115])]))
def laid_loop_example_g00644_impl_errAtEnd {H : Type} : DataW H := .iface "*errors.errorString" (.ptr (.agg [.lit (.string [116, 104, 101, 32, 99, 117, 114, 115, 111, 114, 39, 115, 32, 100, 97, 116, 97, 32, 101, 110, 100, 115, 32, 97, 104, 101, 97, 100, 32, 111, 102, 32, 116, 104, 97, 116])]))

/-- 'laws.FnSnap': WHATEVER THE INPUT: true; the input reads as it did. -/
def fnSnapSpec : ChangeSpec := { name := "fnSnap", vars := ["loop.example/g00644/impl.errCursor", "loop.example/g00644/impl.errCount", "loop.example/g00644/impl.errAtEnd"], fn := fun _ => fun
  | [d1, d2, g1, g2, g3] => { results := [.lit (.bool true)], args := [d1, d2], vars := [g1, g2, g3] }
  | _ => none }
def fnSnapRow : OpenClaim := { program := "ytghcagibdcblnaagreatdoor", sum := "f1db3f2782e09b6177008a70bff11cba27671b9a1de15b723a87a8dc13800e1c", func := "loop.example/g00644/laws.FnSnap", spec := "fnSnap", inPlace := ["internal/abi.NoEscape", "internal/bytealg.MakeNoZero", "internal/reflectlite.TypeOf"], unfollowed := true, recurses := true, named := ["loop.example/g00644/impl.errCursor", "loop.example/g00644/impl.errCount", "loop.example/g00644/impl.errAtEnd"], ifaces := true, apart := false, laid := [("loop.example/g00644/impl.errCursor", laid_loop_example_g00644_impl_errCursor), ("loop.example/g00644/impl.errCount", laid_loop_example_g00644_impl_errCount), ("loop.example/g00644/impl.errAtEnd", laid_loop_example_g00644_impl_errAtEnd)] }
def FnSnapSaid : Prop := fnSnapRow.holds Tryz.pinned (OpenSpec.ofChange fnSnapSpec)

/-- ITS FALSE NEIGHBOUR: 'it returns false'. Refute it at one input. -/
def fnSnapWrong : ChangeSpec := { name := "fnSnap", vars := ["loop.example/g00644/impl.errCursor", "loop.example/g00644/impl.errCount", "loop.example/g00644/impl.errAtEnd"], fn := fun _ => fun
  | [d1, d2, g1, g2, g3] => { results := [.lit (.bool false)], args := [d1, d2], vars := [g1, g2, g3] }
  | _ => none }
def FnSnapWrongFalsely : Prop := fnSnapRow.holds Tryz.pinned (OpenSpec.ofChange fnSnapWrong)

/- THE SECOND FORM. 'bulk': how many values and letters a reading holds, each counted each time it is reached (what is shared counts as often as it is met; a slice's spare places count too). A statement '..UptoSaid' is the law's where the arguments, and the package variables that the reading takes, are together of bulk at most 1048576: NARROWER than '..Said'. Prove '..Said' where nothing that the law and all that it calls make is longer than what came in: it says more and counts as full. Else prove '..UptoSaid'. A law counts once. -/
mutual
def uptoBulk {H : Type} : DataW H → Nat
  | .lit (.string bytes) => bytes.length + 1
  | .lit _ => 1
  | .nil => 1
  | .ptr d => uptoBulk d + 1
  | .slice elems spare => uptoBulkAll elems + uptoBulkAll spare + 1
  | .agg parts => uptoBulkAll parts + 1
  | .iface _ d => uptoBulk d + 1
  | .map entries => uptoBulkEntries entries + 1
  | .held _ => 1
def uptoBulkAll {H : Type} : List (DataW H) → Nat
  | [] => 0
  | d :: r => uptoBulk d + uptoBulkAll r
def uptoBulkEntries {H : Type} : List (Lit × DataW H) → Nat
  | [] => 0
  | x :: r => uptoBulkEntry x + uptoBulkEntries r
def uptoBulkEntry {H : Type} : Lit × DataW H → Nat
  | (.string bytes, d) => bytes.length + uptoBulk d + 1
  | (_, d) => uptoBulk d + 1
 end
def uptoSmall : (H : Type) → List (DataW H) → Bool := fun _ ds => decide (uptoBulkAll ds ≤ 1048576)
def OpenSpec.upto (s : _root_.Go.ChangeSpec) : _root_.Go.OpenSpec := { _root_.Go.OpenSpec.ofChange s with cond := some uptoSmall }

/-- 'laws.FnSnap', WHERE WHAT IT READS IS OF BULK AT MOST 1048576: true; the input reads as it did. -/
def fnSnapUptoRow : OpenClaim := { program := "ytghcagibdcblnaagreatdoor", sum := "f1db3f2782e09b6177008a70bff11cba27671b9a1de15b723a87a8dc13800e1c", func := "loop.example/g00644/laws.FnSnap", spec := "fnSnap", inPlace := ["internal/abi.NoEscape", "internal/bytealg.MakeNoZero", "internal/reflectlite.TypeOf"], unfollowed := true, recurses := true, named := ["loop.example/g00644/impl.errCursor", "loop.example/g00644/impl.errCount", "loop.example/g00644/impl.errAtEnd"], ifaces := true, apart := false, laid := [("loop.example/g00644/impl.errCursor", laid_loop_example_g00644_impl_errCursor), ("loop.example/g00644/impl.errCount", laid_loop_example_g00644_impl_errCount), ("loop.example/g00644/impl.errAtEnd", laid_loop_example_g00644_impl_errAtEnd)], narrowed := true }
def FnSnapUptoSaid : Prop := fnSnapUptoRow.holds Tryz.pinned (OpenSpec.upto fnSnapSpec)

end Rows
end Go.Proofs.YtghcagibdcblnaaGreatDoor
