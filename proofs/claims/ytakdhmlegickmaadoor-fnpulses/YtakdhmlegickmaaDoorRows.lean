/-
  NARROWER THAN 'FOR EVERY INPUT', by the rows' own cells (each row's printed sentence says how): FnTap: ifaces, laid · FnPulses: ifaces, laid · FnExactReadTap: ifaces, laid.
  DERIVED. THE GIVEN ROWS OF THIS SEAT. 3 by the template 'for every input the law returns true; each argument reads behind the call as it read before'; 0 by the template 'total and deterministic' (their statements: YtakdhmlegickmaaDoorTotals.lean).
  GIVEN WITH THE SEED: the statements are not yours to turn. If you find one false, say at which input.
  Laid BY PROGRAM, IN A SANDBOX (cutbox-rows.mjs): the forced cells as the released guide's own fill.sh prints them over the translation 2c8a7ef4301c3fa2… (all of the seat's roots in one cut). By AI agents, Wed Nov 11 2026. No macro, syntax, notation, axiom, sorry.
-/
import Derived.Test.YtakdhmlegickmaaDoorChecked
import GoSem.Claim
import GoSem.ClaimJoined
import GoSem.ClaimMapViews
import Derived.JoinedTies
import Derived.KernelRfl
namespace Go.Proofs.YtakdhmlegickmaaDoor
/- THE CELL 'sum', in the pinned program and in every row, IS THE sha256 OF THE DUMP (.gsa) THAT YtakdhmlegickmaaDoorProg.lean LOADS. Nothing in Lean hashes anything: it is a label: what it is worth is what the hold of that sum in a sandbox is worth. -/
noncomputable def Tryd.pinned : Pinned := { name := "ytakdhmlegickmaadoor", sum := "2c8a7ef4301c3fa240b9d1b9467904be4fcc9008febb448b2fae0bf40606e2f9", checked := Tryd.checked }
namespace Rows
def none {H : Type} : Left H := { results := [], args := [] }

/- WHAT THE LISTED PACKAGE-LEVEL VARIABLES READ AS WHEN THE CALL BEGINS. Each datum BY PROGRAM (the guide's laid-datum.mjs) off the statement by which the dump's own 'gosem.cut.vars' lays the variable. In a bare row this is a premise. The card (YtakdhmlegickmaaDoorCards.lean) ties it to the program's text. -/
def laid_loop_example_g00644_impl_errCursor {H : Type} : DataW H := .iface "*errors.errorString" (.ptr (.agg [.lit (.string [116, 104, 101, 32, 99, 117, 114, 115, 111, 114, 32, 100, 111, 101, 115, 32, 110, 111, 116, 32, 115, 116, 97, 110, 100, 32, 105, 110, 32, 105, 116, 115, 32, 100, 97, 116, 97])]))
def laid_loop_example_g00644_impl_errCount {H : Type} : DataW H := .iface "*errors.errorString" (.ptr (.agg [.lit (.string [110, 111, 32, 116, 101, 120, 116, 32, 104, 97, 115, 32, 115, 111, 32, 109, 97, 110, 121, 32, 98, 121, 116, 101, 115])]))
def laid_loop_example_g00644_impl_errAtEnd {H : Type} : DataW H := .iface "*errors.errorString" (.ptr (.agg [.lit (.string [116, 104, 101, 32, 99, 117, 114, 115, 111, 114, 39, 115, 32, 100, 97, 116, 97, 32, 101, 110, 100, 115, 32, 97, 104, 101, 97, 100, 32, 111, 102, 32, 116, 104, 97, 116])]))
def laid_loop_example_g00644_impl_errBlockSize {H : Type} : DataW H := .iface "*errors.errorString" (.ptr (.agg [.lit (.string [110, 111, 32, 98, 108, 111, 99, 107, 32, 104, 97, 115, 32, 115, 111, 32, 109, 97, 110, 121, 32, 98, 121, 116, 101, 115])]))
def laid_loop_example_g00644_impl_errBlockSum {H : Type} : DataW H := .iface "*errors.errorString" (.ptr (.agg [.lit (.string [116, 104, 101, 32, 98, 108, 111, 99, 107, 39, 115, 32, 115, 117, 109, 32, 105, 115, 32, 110, 111, 116, 32, 116, 104, 97, 116, 32, 111, 102, 32, 105, 116, 115, 32, 102, 108, 97, 103, 32, 97, 110, 100, 32, 105, 116, 115, 32, 100, 97, 116, 97])]))
def laid_loop_example_g00644_impl_errManyBlocks {H : Type} : DataW H := .iface "*errors.errorString" (.ptr (.agg [.lit (.string [110, 111, 32, 116, 97, 112, 101, 32, 104, 97, 115, 32, 115, 111, 32, 109, 97, 110, 121, 32, 98, 108, 111, 99, 107, 115])]))
def laid_loop_example_g00644_impl_errNoPilot {H : Type} : DataW H := .iface "*errors.errorString" (.ptr (.agg [.lit (.string [116, 104, 101, 114, 101, 32, 97, 114, 101, 32, 116, 111, 111, 32, 102, 101, 119, 32, 112, 117, 108, 115, 101, 115, 32, 111, 102, 32, 97, 32, 112, 105, 108, 111, 116])]))
def laid_loop_example_g00644_impl_errNoSync {H : Type} : DataW H := .iface "*errors.errorString" (.ptr (.agg [.lit (.string [110, 111, 32, 116, 119, 111, 32, 112, 117, 108, 115, 101, 115, 32, 111, 102, 32, 97, 32, 115, 121, 110, 99, 32, 115, 116, 97, 110, 100, 32, 98, 101, 104, 105, 110, 100, 32, 116, 104, 101, 32, 112, 105, 108, 111, 116])]))
def laid_loop_example_g00644_impl_errPartOfByte {H : Type} : DataW H := .iface "*errors.errorString" (.ptr (.agg [.lit (.string [116, 104, 101, 32, 98, 105, 116, 115, 32, 101, 110, 100, 32, 119, 105, 116, 104, 105, 110, 32, 97, 32, 98, 121, 116, 101])]))
def laid_loop_example_g00644_impl_bitTimes {H : Type} : DataW H := .agg [.lit (.int .i64 20), .lit (.int .i64 40)]

/-- 'laws.FnTap': WHATEVER THE INPUT: true; the input reads as it did. -/
def fnTapSpec : ChangeSpec := { name := "fnTap", vars := ["loop.example/g00644/impl.errCursor", "loop.example/g00644/impl.errCount", "loop.example/g00644/impl.errAtEnd", "loop.example/g00644/impl.errBlockSize", "loop.example/g00644/impl.errBlockSum", "loop.example/g00644/impl.errManyBlocks"], fn := fun _ => fun
  | [d1, d2, g1, g2, g3, g4, g5, g6] => { results := [.lit (.bool true)], args := [d1, d2], vars := [g1, g2, g3, g4, g5, g6] }
  | _ => none }
def fnTapRow : OpenClaim := { program := "ytakdhmlegickmaadoor", sum := "2c8a7ef4301c3fa240b9d1b9467904be4fcc9008febb448b2fae0bf40606e2f9", func := "loop.example/g00644/laws.FnTap", spec := "fnTap", inPlace := ["internal/abi.NoEscape", "internal/reflectlite.TypeOf"], unfollowed := true, recurses := true, named := ["loop.example/g00644/impl.errCursor", "loop.example/g00644/impl.errCount", "loop.example/g00644/impl.errAtEnd", "loop.example/g00644/impl.errBlockSize", "loop.example/g00644/impl.errBlockSum", "loop.example/g00644/impl.errManyBlocks"], ifaces := true, apart := false, laid := [("loop.example/g00644/impl.errCursor", laid_loop_example_g00644_impl_errCursor), ("loop.example/g00644/impl.errCount", laid_loop_example_g00644_impl_errCount), ("loop.example/g00644/impl.errAtEnd", laid_loop_example_g00644_impl_errAtEnd), ("loop.example/g00644/impl.errBlockSize", laid_loop_example_g00644_impl_errBlockSize), ("loop.example/g00644/impl.errBlockSum", laid_loop_example_g00644_impl_errBlockSum), ("loop.example/g00644/impl.errManyBlocks", laid_loop_example_g00644_impl_errManyBlocks)] }
def FnTapSaid : Prop := fnTapRow.holds Tryd.pinned (OpenSpec.ofChange fnTapSpec)

/-- ITS FALSE NEIGHBOUR: 'it returns false'. Refute it at one input. -/
def fnTapWrong : ChangeSpec := { name := "fnTap", vars := ["loop.example/g00644/impl.errCursor", "loop.example/g00644/impl.errCount", "loop.example/g00644/impl.errAtEnd", "loop.example/g00644/impl.errBlockSize", "loop.example/g00644/impl.errBlockSum", "loop.example/g00644/impl.errManyBlocks"], fn := fun _ => fun
  | [d1, d2, g1, g2, g3, g4, g5, g6] => { results := [.lit (.bool false)], args := [d1, d2], vars := [g1, g2, g3, g4, g5, g6] }
  | _ => none }
def FnTapWrongFalsely : Prop := fnTapRow.holds Tryd.pinned (OpenSpec.ofChange fnTapWrong)

/-- 'laws.FnPulses': WHATEVER THE INPUT: true; the input reads as it did. -/
def fnPulsesSpec : ChangeSpec := { name := "fnPulses", vars := ["loop.example/g00644/impl.bitTimes", "loop.example/g00644/impl.errNoPilot", "loop.example/g00644/impl.errNoSync", "loop.example/g00644/impl.errPartOfByte", "loop.example/g00644/impl.errBlockSize", "loop.example/g00644/impl.errBlockSum", "loop.example/g00644/impl.errManyBlocks", "loop.example/g00644/impl.errAtEnd", "loop.example/g00644/impl.errCount"], fn := fun _ => fun
  | [d1, d2, g1, g2, g3, g4, g5, g6, g7, g8, g9] => { results := [.lit (.bool true)], args := [d1, d2], vars := [g1, g2, g3, g4, g5, g6, g7, g8, g9] }
  | _ => none }
def fnPulsesRow : OpenClaim := { program := "ytakdhmlegickmaadoor", sum := "2c8a7ef4301c3fa240b9d1b9467904be4fcc9008febb448b2fae0bf40606e2f9", func := "loop.example/g00644/laws.FnPulses", spec := "fnPulses", inPlace := ["internal/reflectlite.TypeOf"], unfollowed := true, recurses := true, named := ["loop.example/g00644/impl.bitTimes", "loop.example/g00644/impl.errNoPilot", "loop.example/g00644/impl.errNoSync", "loop.example/g00644/impl.errPartOfByte", "loop.example/g00644/impl.errBlockSize", "loop.example/g00644/impl.errBlockSum", "loop.example/g00644/impl.errManyBlocks", "loop.example/g00644/impl.errAtEnd", "loop.example/g00644/impl.errCount"], ifaces := true, apart := false, laid := [("loop.example/g00644/impl.errCount", laid_loop_example_g00644_impl_errCount), ("loop.example/g00644/impl.errAtEnd", laid_loop_example_g00644_impl_errAtEnd), ("loop.example/g00644/impl.errBlockSize", laid_loop_example_g00644_impl_errBlockSize), ("loop.example/g00644/impl.errBlockSum", laid_loop_example_g00644_impl_errBlockSum), ("loop.example/g00644/impl.errManyBlocks", laid_loop_example_g00644_impl_errManyBlocks), ("loop.example/g00644/impl.errNoPilot", laid_loop_example_g00644_impl_errNoPilot), ("loop.example/g00644/impl.errNoSync", laid_loop_example_g00644_impl_errNoSync), ("loop.example/g00644/impl.errPartOfByte", laid_loop_example_g00644_impl_errPartOfByte), ("loop.example/g00644/impl.bitTimes", laid_loop_example_g00644_impl_bitTimes)] }
def FnPulsesSaid : Prop := fnPulsesRow.holds Tryd.pinned (OpenSpec.ofChange fnPulsesSpec)

/-- ITS FALSE NEIGHBOUR: 'it returns false'. Refute it at one input. -/
def fnPulsesWrong : ChangeSpec := { name := "fnPulses", vars := ["loop.example/g00644/impl.bitTimes", "loop.example/g00644/impl.errNoPilot", "loop.example/g00644/impl.errNoSync", "loop.example/g00644/impl.errPartOfByte", "loop.example/g00644/impl.errBlockSize", "loop.example/g00644/impl.errBlockSum", "loop.example/g00644/impl.errManyBlocks", "loop.example/g00644/impl.errAtEnd", "loop.example/g00644/impl.errCount"], fn := fun _ => fun
  | [d1, d2, g1, g2, g3, g4, g5, g6, g7, g8, g9] => { results := [.lit (.bool false)], args := [d1, d2], vars := [g1, g2, g3, g4, g5, g6, g7, g8, g9] }
  | _ => none }
def FnPulsesWrongFalsely : Prop := fnPulsesRow.holds Tryd.pinned (OpenSpec.ofChange fnPulsesWrong)

/-- 'laws.FnExactReadTap': WHATEVER THE INPUT: true; the input reads as it did. -/
def fnExactReadTapSpec : ChangeSpec := { name := "fnExactReadTap", vars := ["loop.example/g00644/impl.errCursor", "loop.example/g00644/impl.errCount", "loop.example/g00644/impl.errAtEnd", "loop.example/g00644/impl.errBlockSize", "loop.example/g00644/impl.errBlockSum", "loop.example/g00644/impl.errManyBlocks"], fn := fun _ => fun
  | [d, g1, g2, g3, g4, g5, g6] => { results := [.lit (.bool true)], args := [d], vars := [g1, g2, g3, g4, g5, g6] }
  | _ => none }
def fnExactReadTapRow : OpenClaim := { program := "ytakdhmlegickmaadoor", sum := "2c8a7ef4301c3fa240b9d1b9467904be4fcc9008febb448b2fae0bf40606e2f9", func := "loop.example/g00644/laws.FnExactReadTap", spec := "fnExactReadTap", inPlace := ["internal/reflectlite.TypeOf"], unfollowed := true, recurses := true, named := ["loop.example/g00644/impl.errCursor", "loop.example/g00644/impl.errCount", "loop.example/g00644/impl.errAtEnd", "loop.example/g00644/impl.errBlockSize", "loop.example/g00644/impl.errBlockSum", "loop.example/g00644/impl.errManyBlocks"], ifaces := true, apart := false, laid := [("loop.example/g00644/impl.errCursor", laid_loop_example_g00644_impl_errCursor), ("loop.example/g00644/impl.errCount", laid_loop_example_g00644_impl_errCount), ("loop.example/g00644/impl.errAtEnd", laid_loop_example_g00644_impl_errAtEnd), ("loop.example/g00644/impl.errBlockSize", laid_loop_example_g00644_impl_errBlockSize), ("loop.example/g00644/impl.errBlockSum", laid_loop_example_g00644_impl_errBlockSum), ("loop.example/g00644/impl.errManyBlocks", laid_loop_example_g00644_impl_errManyBlocks)] }
def FnExactReadTapSaid : Prop := fnExactReadTapRow.holds Tryd.pinned (OpenSpec.ofChange fnExactReadTapSpec)

/-- ITS FALSE NEIGHBOUR: 'it returns false'. Refute it at one input. -/
def fnExactReadTapWrong : ChangeSpec := { name := "fnExactReadTap", vars := ["loop.example/g00644/impl.errCursor", "loop.example/g00644/impl.errCount", "loop.example/g00644/impl.errAtEnd", "loop.example/g00644/impl.errBlockSize", "loop.example/g00644/impl.errBlockSum", "loop.example/g00644/impl.errManyBlocks"], fn := fun _ => fun
  | [d, g1, g2, g3, g4, g5, g6] => { results := [.lit (.bool false)], args := [d], vars := [g1, g2, g3, g4, g5, g6] }
  | _ => none }
def FnExactReadTapWrongFalsely : Prop := fnExactReadTapRow.holds Tryd.pinned (OpenSpec.ofChange fnExactReadTapWrong)

/- THE SECOND FORM. 'bulk': how many values and letters a reading holds, each counted each time it is reached (what is shared counts as often as it is met; a slice's spare places count too). A statement '..UptoSaid' is the law's where the arguments, and the package variables that the reading takes, are together of bulk at most 1048576: NARROWER than '..Said'. Prove '..Said' where nothing that the law and all that it calls make is longer than what came in: it says more and counts as full. Else prove '..UptoSaid'. A law counts once. -/
mutual
def uptoBulk {H : Type} : DataW H → Nat
  | .lit (.string bytes) => bytes.length + 1
  | .lit _ => 1
  | .nil => 1
  | .ptr d => uptoBulk d + 1
  | .slice elems spare => uptoBulkAll elems + uptoBulkAll spare + 1
  | .agg parts => uptoBulkAll parts + 1
  | .iface _ d => uptoBulk d + 1
  | .map entries => uptoBulkEntries entries + 1
  | .held _ => 1
def uptoBulkAll {H : Type} : List (DataW H) → Nat
  | [] => 0
  | d :: r => uptoBulk d + uptoBulkAll r
def uptoBulkEntries {H : Type} : List (Lit × DataW H) → Nat
  | [] => 0
  | x :: r => uptoBulkEntry x + uptoBulkEntries r
def uptoBulkEntry {H : Type} : Lit × DataW H → Nat
  | (.string bytes, d) => bytes.length + uptoBulk d + 1
  | (_, d) => uptoBulk d + 1
 end
def uptoSmall : (H : Type) → List (DataW H) → Bool := fun _ ds => decide (uptoBulkAll ds ≤ 1048576)
def OpenSpec.upto (s : _root_.Go.ChangeSpec) : _root_.Go.OpenSpec := { _root_.Go.OpenSpec.ofChange s with cond := some uptoSmall }

/-- 'laws.FnTap', WHERE WHAT IT READS IS OF BULK AT MOST 1048576: true; the input reads as it did. -/
def fnTapUptoRow : OpenClaim := { program := "ytakdhmlegickmaadoor", sum := "2c8a7ef4301c3fa240b9d1b9467904be4fcc9008febb448b2fae0bf40606e2f9", func := "loop.example/g00644/laws.FnTap", spec := "fnTap", inPlace := ["internal/abi.NoEscape", "internal/reflectlite.TypeOf"], unfollowed := true, recurses := true, named := ["loop.example/g00644/impl.errCursor", "loop.example/g00644/impl.errCount", "loop.example/g00644/impl.errAtEnd", "loop.example/g00644/impl.errBlockSize", "loop.example/g00644/impl.errBlockSum", "loop.example/g00644/impl.errManyBlocks"], ifaces := true, apart := false, laid := [("loop.example/g00644/impl.errCursor", laid_loop_example_g00644_impl_errCursor), ("loop.example/g00644/impl.errCount", laid_loop_example_g00644_impl_errCount), ("loop.example/g00644/impl.errAtEnd", laid_loop_example_g00644_impl_errAtEnd), ("loop.example/g00644/impl.errBlockSize", laid_loop_example_g00644_impl_errBlockSize), ("loop.example/g00644/impl.errBlockSum", laid_loop_example_g00644_impl_errBlockSum), ("loop.example/g00644/impl.errManyBlocks", laid_loop_example_g00644_impl_errManyBlocks)], narrowed := true }
def FnTapUptoSaid : Prop := fnTapUptoRow.holds Tryd.pinned (OpenSpec.upto fnTapSpec)

/-- 'laws.FnPulses', WHERE WHAT IT READS IS OF BULK AT MOST 1048576: true; the input reads as it did. -/
def fnPulsesUptoRow : OpenClaim := { program := "ytakdhmlegickmaadoor", sum := "2c8a7ef4301c3fa240b9d1b9467904be4fcc9008febb448b2fae0bf40606e2f9", func := "loop.example/g00644/laws.FnPulses", spec := "fnPulses", inPlace := ["internal/reflectlite.TypeOf"], unfollowed := true, recurses := true, named := ["loop.example/g00644/impl.bitTimes", "loop.example/g00644/impl.errNoPilot", "loop.example/g00644/impl.errNoSync", "loop.example/g00644/impl.errPartOfByte", "loop.example/g00644/impl.errBlockSize", "loop.example/g00644/impl.errBlockSum", "loop.example/g00644/impl.errManyBlocks", "loop.example/g00644/impl.errAtEnd", "loop.example/g00644/impl.errCount"], ifaces := true, apart := false, laid := [("loop.example/g00644/impl.errCount", laid_loop_example_g00644_impl_errCount), ("loop.example/g00644/impl.errAtEnd", laid_loop_example_g00644_impl_errAtEnd), ("loop.example/g00644/impl.errBlockSize", laid_loop_example_g00644_impl_errBlockSize), ("loop.example/g00644/impl.errBlockSum", laid_loop_example_g00644_impl_errBlockSum), ("loop.example/g00644/impl.errManyBlocks", laid_loop_example_g00644_impl_errManyBlocks), ("loop.example/g00644/impl.errNoPilot", laid_loop_example_g00644_impl_errNoPilot), ("loop.example/g00644/impl.errNoSync", laid_loop_example_g00644_impl_errNoSync), ("loop.example/g00644/impl.errPartOfByte", laid_loop_example_g00644_impl_errPartOfByte), ("loop.example/g00644/impl.bitTimes", laid_loop_example_g00644_impl_bitTimes)], narrowed := true }
def FnPulsesUptoSaid : Prop := fnPulsesUptoRow.holds Tryd.pinned (OpenSpec.upto fnPulsesSpec)

/-- 'laws.FnExactReadTap', WHERE WHAT IT READS IS OF BULK AT MOST 1048576: true; the input reads as it did. -/
def fnExactReadTapUptoRow : OpenClaim := { program := "ytakdhmlegickmaadoor", sum := "2c8a7ef4301c3fa240b9d1b9467904be4fcc9008febb448b2fae0bf40606e2f9", func := "loop.example/g00644/laws.FnExactReadTap", spec := "fnExactReadTap", inPlace := ["internal/reflectlite.TypeOf"], unfollowed := true, recurses := true, named := ["loop.example/g00644/impl.errCursor", "loop.example/g00644/impl.errCount", "loop.example/g00644/impl.errAtEnd", "loop.example/g00644/impl.errBlockSize", "loop.example/g00644/impl.errBlockSum", "loop.example/g00644/impl.errManyBlocks"], ifaces := true, apart := false, laid := [("loop.example/g00644/impl.errCursor", laid_loop_example_g00644_impl_errCursor), ("loop.example/g00644/impl.errCount", laid_loop_example_g00644_impl_errCount), ("loop.example/g00644/impl.errAtEnd", laid_loop_example_g00644_impl_errAtEnd), ("loop.example/g00644/impl.errBlockSize", laid_loop_example_g00644_impl_errBlockSize), ("loop.example/g00644/impl.errBlockSum", laid_loop_example_g00644_impl_errBlockSum), ("loop.example/g00644/impl.errManyBlocks", laid_loop_example_g00644_impl_errManyBlocks)], narrowed := true }
def FnExactReadTapUptoSaid : Prop := fnExactReadTapUptoRow.holds Tryd.pinned (OpenSpec.upto fnExactReadTapSpec)

end Rows
end Go.Proofs.YtakdhmlegickmaaDoor
