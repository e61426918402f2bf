/-
  NARROWER THAN 'FOR EVERY INPUT', by the rows' own cells (each row's printed sentence says how): FnExactPulsesOf: laid · FnExactTapePulses: laid · FnExactDecodePulses: ifaces, laid.
  DERIVED. THE GIVEN ROWS OF THIS SEAT. 3 by the template 'for every input the law returns true; each argument reads behind the call as it read before'; 0 by the template 'total and deterministic' (their statements: YtakdhmlegickmabDoorTotals.lean).
  GIVEN WITH THE SEED: the statements are not yours to turn. If you find one false, say at which input.
  Laid BY PROGRAM, IN A SANDBOX (cutbox-rows.mjs): the forced cells as the released guide's own fill.sh prints them over the translation ca041230529f2561… (all of the seat's roots in one cut). By AI agents, Wed Nov 11 2026. No macro, syntax, notation, axiom, sorry.
-/
import Derived.Test.YtakdhmlegickmabDoorChecked
import GoSem.Claim
import GoSem.ClaimJoined
import GoSem.ClaimMapViews
import Derived.JoinedTies
import Derived.KernelRfl
namespace Go.Proofs.YtakdhmlegickmabDoor
/- THE CELL 'sum', in the pinned program and in every row, IS THE sha256 OF THE DUMP (.gsa) THAT YtakdhmlegickmabDoorProg.lean LOADS. Nothing in Lean hashes anything: it is a label: what it is worth is what the hold of that sum in a sandbox is worth. -/
noncomputable def Tryd.pinned : Pinned := { name := "ytakdhmlegickmabdoor", sum := "ca041230529f256117a1fa794cdbd3d4df66365530c7c3df9bcf72f2a6fc6984", checked := Tryd.checked }
namespace Rows
def none {H : Type} : Left H := { results := [], args := [] }

/- WHAT THE LISTED PACKAGE-LEVEL VARIABLES READ AS WHEN THE CALL BEGINS. Each datum BY PROGRAM (the guide's laid-datum.mjs) off the statement by which the dump's own 'gosem.cut.vars' lays the variable. In a bare row this is a premise. The card (YtakdhmlegickmabDoorCards.lean) ties it to the program's text. -/
def laid_loop_example_g00644_impl_bitTimes {H : Type} : DataW H := .agg [.lit (.int .i64 20), .lit (.int .i64 40)]
def laid_loop_example_g00644_impl_errCount {H : Type} : DataW H := .iface "*errors.errorString" (.ptr (.agg [.lit (.string [110, 111, 32, 116, 101, 120, 116, 32, 104, 97, 115, 32, 115, 111, 32, 109, 97, 110, 121, 32, 98, 121, 116, 101, 115])]))
def laid_loop_example_g00644_impl_errAtEnd {H : Type} : DataW H := .iface "*errors.errorString" (.ptr (.agg [.lit (.string [116, 104, 101, 32, 99, 117, 114, 115, 111, 114, 39, 115, 32, 100, 97, 116, 97, 32, 101, 110, 100, 115, 32, 97, 104, 101, 97, 100, 32, 111, 102, 32, 116, 104, 97, 116])]))
def laid_loop_example_g00644_impl_errBlockSize {H : Type} : DataW H := .iface "*errors.errorString" (.ptr (.agg [.lit (.string [110, 111, 32, 98, 108, 111, 99, 107, 32, 104, 97, 115, 32, 115, 111, 32, 109, 97, 110, 121, 32, 98, 121, 116, 101, 115])]))
def laid_loop_example_g00644_impl_errBlockSum {H : Type} : DataW H := .iface "*errors.errorString" (.ptr (.agg [.lit (.string [116, 104, 101, 32, 98, 108, 111, 99, 107, 39, 115, 32, 115, 117, 109, 32, 105, 115, 32, 110, 111, 116, 32, 116, 104, 97, 116, 32, 111, 102, 32, 105, 116, 115, 32, 102, 108, 97, 103, 32, 97, 110, 100, 32, 105, 116, 115, 32, 100, 97, 116, 97])]))
def laid_loop_example_g00644_impl_errManyBlocks {H : Type} : DataW H := .iface "*errors.errorString" (.ptr (.agg [.lit (.string [110, 111, 32, 116, 97, 112, 101, 32, 104, 97, 115, 32, 115, 111, 32, 109, 97, 110, 121, 32, 98, 108, 111, 99, 107, 115])]))
def laid_loop_example_g00644_impl_errNoPilot {H : Type} : DataW H := .iface "*errors.errorString" (.ptr (.agg [.lit (.string [116, 104, 101, 114, 101, 32, 97, 114, 101, 32, 116, 111, 111, 32, 102, 101, 119, 32, 112, 117, 108, 115, 101, 115, 32, 111, 102, 32, 97, 32, 112, 105, 108, 111, 116])]))
def laid_loop_example_g00644_impl_errNoSync {H : Type} : DataW H := .iface "*errors.errorString" (.ptr (.agg [.lit (.string [110, 111, 32, 116, 119, 111, 32, 112, 117, 108, 115, 101, 115, 32, 111, 102, 32, 97, 32, 115, 121, 110, 99, 32, 115, 116, 97, 110, 100, 32, 98, 101, 104, 105, 110, 100, 32, 116, 104, 101, 32, 112, 105, 108, 111, 116])]))
def laid_loop_example_g00644_impl_errPartOfByte {H : Type} : DataW H := .iface "*errors.errorString" (.ptr (.agg [.lit (.string [116, 104, 101, 32, 98, 105, 116, 115, 32, 101, 110, 100, 32, 119, 105, 116, 104, 105, 110, 32, 97, 32, 98, 121, 116, 101])]))

/-- 'laws.FnExactPulsesOf': WHATEVER THE INPUT: true; the input reads as it did. -/
def fnExactPulsesOfSpec : ChangeSpec := { name := "fnExactPulsesOf", vars := ["loop.example/g00644/impl.bitTimes"], fn := fun _ => fun
  | [d, g1] => { results := [.lit (.bool true)], args := [d], vars := [g1] }
  | _ => none }
def fnExactPulsesOfRow : OpenClaim := { program := "ytakdhmlegickmabdoor", sum := "ca041230529f256117a1fa794cdbd3d4df66365530c7c3df9bcf72f2a6fc6984", func := "loop.example/g00644/laws.FnExactPulsesOf", spec := "fnExactPulsesOf", unfollowed := true, recurses := true, named := ["loop.example/g00644/impl.bitTimes"], apart := false, laid := [("loop.example/g00644/impl.bitTimes", laid_loop_example_g00644_impl_bitTimes)] }
def FnExactPulsesOfSaid : Prop := fnExactPulsesOfRow.holds Tryd.pinned (OpenSpec.ofChange fnExactPulsesOfSpec)

/-- ITS FALSE NEIGHBOUR: 'it returns false'. Refute it at one input. -/
def fnExactPulsesOfWrong : ChangeSpec := { name := "fnExactPulsesOf", vars := ["loop.example/g00644/impl.bitTimes"], fn := fun _ => fun
  | [d, g1] => { results := [.lit (.bool false)], args := [d], vars := [g1] }
  | _ => none }
def FnExactPulsesOfWrongFalsely : Prop := fnExactPulsesOfRow.holds Tryd.pinned (OpenSpec.ofChange fnExactPulsesOfWrong)

/-- 'laws.FnExactTapePulses': WHATEVER THE INPUT: true; the input reads as it did. -/
def fnExactTapePulsesSpec : ChangeSpec := { name := "fnExactTapePulses", vars := ["loop.example/g00644/impl.bitTimes"], fn := fun _ => fun
  | [d, g1] => { results := [.lit (.bool true)], args := [d], vars := [g1] }
  | _ => none }
def fnExactTapePulsesRow : OpenClaim := { program := "ytakdhmlegickmabdoor", sum := "ca041230529f256117a1fa794cdbd3d4df66365530c7c3df9bcf72f2a6fc6984", func := "loop.example/g00644/laws.FnExactTapePulses", spec := "fnExactTapePulses", unfollowed := true, recurses := true, named := ["loop.example/g00644/impl.bitTimes"], apart := false, laid := [("loop.example/g00644/impl.bitTimes", laid_loop_example_g00644_impl_bitTimes)] }
def FnExactTapePulsesSaid : Prop := fnExactTapePulsesRow.holds Tryd.pinned (OpenSpec.ofChange fnExactTapePulsesSpec)

/-- ITS FALSE NEIGHBOUR: 'it returns false'. Refute it at one input. -/
def fnExactTapePulsesWrong : ChangeSpec := { name := "fnExactTapePulses", vars := ["loop.example/g00644/impl.bitTimes"], fn := fun _ => fun
  | [d, g1] => { results := [.lit (.bool false)], args := [d], vars := [g1] }
  | _ => none }
def FnExactTapePulsesWrongFalsely : Prop := fnExactTapePulsesRow.holds Tryd.pinned (OpenSpec.ofChange fnExactTapePulsesWrong)

/-- 'laws.FnExactDecodePulses': WHATEVER THE INPUT: true; the input reads as it did. -/
def fnExactDecodePulsesSpec : ChangeSpec := { name := "fnExactDecodePulses", vars := ["loop.example/g00644/impl.errNoPilot", "loop.example/g00644/impl.errNoSync", "loop.example/g00644/impl.errPartOfByte", "loop.example/g00644/impl.errBlockSize", "loop.example/g00644/impl.errBlockSum", "loop.example/g00644/impl.errManyBlocks", "loop.example/g00644/impl.errAtEnd", "loop.example/g00644/impl.errCount"], fn := fun _ => fun
  | [d, g1, g2, g3, g4, g5, g6, g7, g8] => { results := [.lit (.bool true)], args := [d], vars := [g1, g2, g3, g4, g5, g6, g7, g8] }
  | _ => none }
def fnExactDecodePulsesRow : OpenClaim := { program := "ytakdhmlegickmabdoor", sum := "ca041230529f256117a1fa794cdbd3d4df66365530c7c3df9bcf72f2a6fc6984", func := "loop.example/g00644/laws.FnExactDecodePulses", spec := "fnExactDecodePulses", inPlace := ["internal/reflectlite.TypeOf"], unfollowed := true, recurses := true, named := ["loop.example/g00644/impl.errNoPilot", "loop.example/g00644/impl.errNoSync", "loop.example/g00644/impl.errPartOfByte", "loop.example/g00644/impl.errBlockSize", "loop.example/g00644/impl.errBlockSum", "loop.example/g00644/impl.errManyBlocks", "loop.example/g00644/impl.errAtEnd", "loop.example/g00644/impl.errCount"], ifaces := true, apart := false, laid := [("loop.example/g00644/impl.errCount", laid_loop_example_g00644_impl_errCount), ("loop.example/g00644/impl.errAtEnd", laid_loop_example_g00644_impl_errAtEnd), ("loop.example/g00644/impl.errBlockSize", laid_loop_example_g00644_impl_errBlockSize), ("loop.example/g00644/impl.errBlockSum", laid_loop_example_g00644_impl_errBlockSum), ("loop.example/g00644/impl.errManyBlocks", laid_loop_example_g00644_impl_errManyBlocks), ("loop.example/g00644/impl.errNoPilot", laid_loop_example_g00644_impl_errNoPilot), ("loop.example/g00644/impl.errNoSync", laid_loop_example_g00644_impl_errNoSync), ("loop.example/g00644/impl.errPartOfByte", laid_loop_example_g00644_impl_errPartOfByte)] }
def FnExactDecodePulsesSaid : Prop := fnExactDecodePulsesRow.holds Tryd.pinned (OpenSpec.ofChange fnExactDecodePulsesSpec)

/-- ITS FALSE NEIGHBOUR: 'it returns false'. Refute it at one input. -/
def fnExactDecodePulsesWrong : ChangeSpec := { name := "fnExactDecodePulses", vars := ["loop.example/g00644/impl.errNoPilot", "loop.example/g00644/impl.errNoSync", "loop.example/g00644/impl.errPartOfByte", "loop.example/g00644/impl.errBlockSize", "loop.example/g00644/impl.errBlockSum", "loop.example/g00644/impl.errManyBlocks", "loop.example/g00644/impl.errAtEnd", "loop.example/g00644/impl.errCount"], fn := fun _ => fun
  | [d, g1, g2, g3, g4, g5, g6, g7, g8] => { results := [.lit (.bool false)], args := [d], vars := [g1, g2, g3, g4, g5, g6, g7, g8] }
  | _ => none }
def FnExactDecodePulsesWrongFalsely : Prop := fnExactDecodePulsesRow.holds Tryd.pinned (OpenSpec.ofChange fnExactDecodePulsesWrong)

/- THE SECOND FORM. 'bulk': how many values and letters a reading holds, each counted each time it is reached (what is shared counts as often as it is met; a slice's spare places count too). A statement '..UptoSaid' is the law's where the arguments, and the package variables that the reading takes, are together of bulk at most 1048576: NARROWER than '..Said'. Prove '..Said' where nothing that the law and all that it calls make is longer than what came in: it says more and counts as full. Else prove '..UptoSaid'. A law counts once. -/
mutual
def uptoBulk {H : Type} : DataW H → Nat
  | .lit (.string bytes) => bytes.length + 1
  | .lit _ => 1
  | .nil => 1
  | .ptr d => uptoBulk d + 1
  | .slice elems spare => uptoBulkAll elems + uptoBulkAll spare + 1
  | .agg parts => uptoBulkAll parts + 1
  | .iface _ d => uptoBulk d + 1
  | .map entries => uptoBulkEntries entries + 1
  | .held _ => 1
def uptoBulkAll {H : Type} : List (DataW H) → Nat
  | [] => 0
  | d :: r => uptoBulk d + uptoBulkAll r
def uptoBulkEntries {H : Type} : List (Lit × DataW H) → Nat
  | [] => 0
  | x :: r => uptoBulkEntry x + uptoBulkEntries r
def uptoBulkEntry {H : Type} : Lit × DataW H → Nat
  | (.string bytes, d) => bytes.length + uptoBulk d + 1
  | (_, d) => uptoBulk d + 1
 end
def uptoSmall : (H : Type) → List (DataW H) → Bool := fun _ ds => decide (uptoBulkAll ds ≤ 1048576)
def OpenSpec.upto (s : _root_.Go.ChangeSpec) : _root_.Go.OpenSpec := { _root_.Go.OpenSpec.ofChange s with cond := some uptoSmall }

/-- 'laws.FnExactPulsesOf', WHERE WHAT IT READS IS OF BULK AT MOST 1048576: true; the input reads as it did. -/
def fnExactPulsesOfUptoRow : OpenClaim := { program := "ytakdhmlegickmabdoor", sum := "ca041230529f256117a1fa794cdbd3d4df66365530c7c3df9bcf72f2a6fc6984", func := "loop.example/g00644/laws.FnExactPulsesOf", spec := "fnExactPulsesOf", unfollowed := true, recurses := true, named := ["loop.example/g00644/impl.bitTimes"], apart := false, laid := [("loop.example/g00644/impl.bitTimes", laid_loop_example_g00644_impl_bitTimes)], narrowed := true }
def FnExactPulsesOfUptoSaid : Prop := fnExactPulsesOfUptoRow.holds Tryd.pinned (OpenSpec.upto fnExactPulsesOfSpec)

/-- 'laws.FnExactTapePulses', WHERE WHAT IT READS IS OF BULK AT MOST 1048576: true; the input reads as it did. -/
def fnExactTapePulsesUptoRow : OpenClaim := { program := "ytakdhmlegickmabdoor", sum := "ca041230529f256117a1fa794cdbd3d4df66365530c7c3df9bcf72f2a6fc6984", func := "loop.example/g00644/laws.FnExactTapePulses", spec := "fnExactTapePulses", unfollowed := true, recurses := true, named := ["loop.example/g00644/impl.bitTimes"], apart := false, laid := [("loop.example/g00644/impl.bitTimes", laid_loop_example_g00644_impl_bitTimes)], narrowed := true }
def FnExactTapePulsesUptoSaid : Prop := fnExactTapePulsesUptoRow.holds Tryd.pinned (OpenSpec.upto fnExactTapePulsesSpec)

/-- 'laws.FnExactDecodePulses', WHERE WHAT IT READS IS OF BULK AT MOST 1048576: true; the input reads as it did. -/
def fnExactDecodePulsesUptoRow : OpenClaim := { program := "ytakdhmlegickmabdoor", sum := "ca041230529f256117a1fa794cdbd3d4df66365530c7c3df9bcf72f2a6fc6984", func := "loop.example/g00644/laws.FnExactDecodePulses", spec := "fnExactDecodePulses", inPlace := ["internal/reflectlite.TypeOf"], unfollowed := true, recurses := true, named := ["loop.example/g00644/impl.errNoPilot", "loop.example/g00644/impl.errNoSync", "loop.example/g00644/impl.errPartOfByte", "loop.example/g00644/impl.errBlockSize", "loop.example/g00644/impl.errBlockSum", "loop.example/g00644/impl.errManyBlocks", "loop.example/g00644/impl.errAtEnd", "loop.example/g00644/impl.errCount"], ifaces := true, apart := false, laid := [("loop.example/g00644/impl.errCount", laid_loop_example_g00644_impl_errCount), ("loop.example/g00644/impl.errAtEnd", laid_loop_example_g00644_impl_errAtEnd), ("loop.example/g00644/impl.errBlockSize", laid_loop_example_g00644_impl_errBlockSize), ("loop.example/g00644/impl.errBlockSum", laid_loop_example_g00644_impl_errBlockSum), ("loop.example/g00644/impl.errManyBlocks", laid_loop_example_g00644_impl_errManyBlocks), ("loop.example/g00644/impl.errNoPilot", laid_loop_example_g00644_impl_errNoPilot), ("loop.example/g00644/impl.errNoSync", laid_loop_example_g00644_impl_errNoSync), ("loop.example/g00644/impl.errPartOfByte", laid_loop_example_g00644_impl_errPartOfByte)], narrowed := true }
def FnExactDecodePulsesUptoSaid : Prop := fnExactDecodePulsesUptoRow.holds Tryd.pinned (OpenSpec.upto fnExactDecodePulsesSpec)

end Rows
end Go.Proofs.YtakdhmlegickmabDoor
