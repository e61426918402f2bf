/-
  NARROWER THAN 'FOR EVERY INPUT', by the rows' own cells (each row's printed sentence says how): FnDaa: laid · FnFrame: laid · FnFetch: laid.
  DERIVED. THE GIVEN ROWS OF THIS SEAT. 3 by the template 'for every input the law returns true; each argument reads behind the call as it read before'; 0 by the template 'total and deterministic' (their statements: YtllcffakpobdlabDoorTotals.lean).
  GIVEN WITH THE SEED: the statements are not yours to turn. If you find one false, say at which input.
  Laid BY PROGRAM, IN A SANDBOX (cutbox-rows.mjs): the forced cells as the released guide's own fill.sh prints them over the translation 3407054038792a5f… (all of the seat's roots in one cut). By AI agents, Wed Nov 11 2026. No macro, syntax, notation, axiom, sorry.
-/
import Derived.Test.YtllcffakpobdlabDoorChecked
import GoSem.Claim
import GoSem.ClaimJoined
import GoSem.ClaimMapViews
import Derived.JoinedTies
import Derived.KernelRfl
namespace Go.Proofs.YtllcffakpobdlabDoor
/- THE CELL 'sum', in the pinned program and in every row, IS THE sha256 OF THE DUMP (.gsa) THAT YtllcffakpobdlabDoorProg.lean LOADS. Nothing in Lean hashes anything: it is a label: what it is worth is what the hold of that sum in a sandbox is worth. -/
noncomputable def Tryd.pinned : Pinned := { name := "ytllcffakpobdlabdoor", sum := "3407054038792a5f587d34fd8bb5465b2937cd2b47f9c575f7733cbb3cfb3fee", checked := Tryd.checked }
namespace Rows
def none {H : Type} : Left H := { results := [], args := [] }

/- WHAT THE LISTED PACKAGE-LEVEL VARIABLES READ AS WHEN THE CALL BEGINS. Each datum BY PROGRAM (the guide's laid-datum.mjs) off the statement by which the dump's own 'gosem.cut.vars' lays the variable. In a bare row this is a premise. The card (YtllcffakpobdlabDoorCards.lean) ties it to the program's text. -/
def laid_loop_example_g00644_impl_copiedFlags {H : Type} : DataW H := .agg [.lit (.int .i64 128), .lit (.int .i64 32), .lit (.int .i64 8)]
def laid_loop_example_g00644_impl_waitPattern {H : Type} : DataW H := .agg [.lit (.int .i64 6), .lit (.int .i64 5), .lit (.int .i64 4), .lit (.int .i64 3), .lit (.int .i64 2), .lit (.int .i64 1), .lit (.int .i64 0), .lit (.int .i64 0)]
def laid_loop_example_g00644_impl_fetchPattern {H : Type} : DataW H := .agg [.lit (.int .i64 0), .lit (.int .i64 32), .lit (.int .i64 (-1)), .lit (.int .i64 (-1))]

/-- 'laws.FnDaa': WHATEVER THE INPUT: true; the input reads as it did. -/
def fnDaaSpec : ChangeSpec := { name := "fnDaa", vars := ["loop.example/g00644/impl.copiedFlags"], fn := fun _ => fun
  | [d1, d2, g1] => { results := [.lit (.bool true)], args := [d1, d2], vars := [g1] }
  | _ => none }
def fnDaaRow : OpenClaim := { program := "ytllcffakpobdlabdoor", sum := "3407054038792a5f587d34fd8bb5465b2937cd2b47f9c575f7733cbb3cfb3fee", func := "loop.example/g00644/laws.FnDaa", spec := "fnDaa", unfollowed := true, recurses := true, named := ["loop.example/g00644/impl.copiedFlags"], apart := false, laid := [("loop.example/g00644/impl.copiedFlags", laid_loop_example_g00644_impl_copiedFlags)] }
def FnDaaSaid : Prop := fnDaaRow.holds Tryd.pinned (OpenSpec.ofChange fnDaaSpec)

/-- ITS FALSE NEIGHBOUR: 'it returns false'. Refute it at one input. -/
def fnDaaWrong : ChangeSpec := { name := "fnDaa", vars := ["loop.example/g00644/impl.copiedFlags"], fn := fun _ => fun
  | [d1, d2, g1] => { results := [.lit (.bool false)], args := [d1, d2], vars := [g1] }
  | _ => none }
def FnDaaWrongFalsely : Prop := fnDaaRow.holds Tryd.pinned (OpenSpec.ofChange fnDaaWrong)

/-- 'laws.FnFrame': WHATEVER THE INPUT: true; the input reads as it did. -/
def fnFrameSpec : ChangeSpec := { name := "fnFrame", vars := ["loop.example/g00644/impl.waitPattern"], fn := fun _ => fun
  | [d1, d2, g1] => { results := [.lit (.bool true)], args := [d1, d2], vars := [g1] }
  | _ => none }
def fnFrameRow : OpenClaim := { program := "ytllcffakpobdlabdoor", sum := "3407054038792a5f587d34fd8bb5465b2937cd2b47f9c575f7733cbb3cfb3fee", func := "loop.example/g00644/laws.FnFrame", spec := "fnFrame", unfollowed := true, recurses := true, named := ["loop.example/g00644/impl.waitPattern"], apart := false, laid := [("loop.example/g00644/impl.waitPattern", laid_loop_example_g00644_impl_waitPattern)] }
def FnFrameSaid : Prop := fnFrameRow.holds Tryd.pinned (OpenSpec.ofChange fnFrameSpec)

/-- ITS FALSE NEIGHBOUR: 'it returns false'. Refute it at one input. -/
def fnFrameWrong : ChangeSpec := { name := "fnFrame", vars := ["loop.example/g00644/impl.waitPattern"], fn := fun _ => fun
  | [d1, d2, g1] => { results := [.lit (.bool false)], args := [d1, d2], vars := [g1] }
  | _ => none }
def FnFrameWrongFalsely : Prop := fnFrameRow.holds Tryd.pinned (OpenSpec.ofChange fnFrameWrong)

/-- 'laws.FnFetch': WHATEVER THE INPUT: true; the input reads as it did. -/
def fnFetchSpec : ChangeSpec := { name := "fnFetch", vars := ["loop.example/g00644/impl.fetchPattern"], fn := fun _ => fun
  | [d1, d2, g1] => { results := [.lit (.bool true)], args := [d1, d2], vars := [g1] }
  | _ => none }
def fnFetchRow : OpenClaim := { program := "ytllcffakpobdlabdoor", sum := "3407054038792a5f587d34fd8bb5465b2937cd2b47f9c575f7733cbb3cfb3fee", func := "loop.example/g00644/laws.FnFetch", spec := "fnFetch", named := ["loop.example/g00644/impl.fetchPattern"], apart := false, laid := [("loop.example/g00644/impl.fetchPattern", laid_loop_example_g00644_impl_fetchPattern)] }
def FnFetchSaid : Prop := fnFetchRow.holds Tryd.pinned (OpenSpec.ofChange fnFetchSpec)

/-- ITS FALSE NEIGHBOUR: 'it returns false'. Refute it at one input. -/
def fnFetchWrong : ChangeSpec := { name := "fnFetch", vars := ["loop.example/g00644/impl.fetchPattern"], fn := fun _ => fun
  | [d1, d2, g1] => { results := [.lit (.bool false)], args := [d1, d2], vars := [g1] }
  | _ => none }
def FnFetchWrongFalsely : Prop := fnFetchRow.holds Tryd.pinned (OpenSpec.ofChange fnFetchWrong)

/- THE SECOND FORM. 'bulk': how many values and letters a reading holds, each counted each time it is reached (what is shared counts as often as it is met; a slice's spare places count too). A statement '..UptoSaid' is the law's where the arguments, and the package variables that the reading takes, are together of bulk at most 1048576: NARROWER than '..Said'. Prove '..Said' where nothing that the law and all that it calls make is longer than what came in: it says more and counts as full. Else prove '..UptoSaid'. A law counts once. -/
mutual
def uptoBulk {H : Type} : DataW H → Nat
  | .lit (.string bytes) => bytes.length + 1
  | .lit _ => 1
  | .nil => 1
  | .ptr d => uptoBulk d + 1
  | .slice elems spare => uptoBulkAll elems + uptoBulkAll spare + 1
  | .agg parts => uptoBulkAll parts + 1
  | .iface _ d => uptoBulk d + 1
  | .map entries => uptoBulkEntries entries + 1
  | .held _ => 1
def uptoBulkAll {H : Type} : List (DataW H) → Nat
  | [] => 0
  | d :: r => uptoBulk d + uptoBulkAll r
def uptoBulkEntries {H : Type} : List (Lit × DataW H) → Nat
  | [] => 0
  | x :: r => uptoBulkEntry x + uptoBulkEntries r
def uptoBulkEntry {H : Type} : Lit × DataW H → Nat
  | (.string bytes, d) => bytes.length + uptoBulk d + 1
  | (_, d) => uptoBulk d + 1
 end
def uptoSmall : (H : Type) → List (DataW H) → Bool := fun _ ds => decide (uptoBulkAll ds ≤ 1048576)
def OpenSpec.upto (s : _root_.Go.ChangeSpec) : _root_.Go.OpenSpec := { _root_.Go.OpenSpec.ofChange s with cond := some uptoSmall }

/-- 'laws.FnDaa', WHERE WHAT IT READS IS OF BULK AT MOST 1048576: true; the input reads as it did. -/
def fnDaaUptoRow : OpenClaim := { program := "ytllcffakpobdlabdoor", sum := "3407054038792a5f587d34fd8bb5465b2937cd2b47f9c575f7733cbb3cfb3fee", func := "loop.example/g00644/laws.FnDaa", spec := "fnDaa", unfollowed := true, recurses := true, named := ["loop.example/g00644/impl.copiedFlags"], apart := false, laid := [("loop.example/g00644/impl.copiedFlags", laid_loop_example_g00644_impl_copiedFlags)], narrowed := true }
def FnDaaUptoSaid : Prop := fnDaaUptoRow.holds Tryd.pinned (OpenSpec.upto fnDaaSpec)

/-- 'laws.FnFrame', WHERE WHAT IT READS IS OF BULK AT MOST 1048576: true; the input reads as it did. -/
def fnFrameUptoRow : OpenClaim := { program := "ytllcffakpobdlabdoor", sum := "3407054038792a5f587d34fd8bb5465b2937cd2b47f9c575f7733cbb3cfb3fee", func := "loop.example/g00644/laws.FnFrame", spec := "fnFrame", unfollowed := true, recurses := true, named := ["loop.example/g00644/impl.waitPattern"], apart := false, laid := [("loop.example/g00644/impl.waitPattern", laid_loop_example_g00644_impl_waitPattern)], narrowed := true }
def FnFrameUptoSaid : Prop := fnFrameUptoRow.holds Tryd.pinned (OpenSpec.upto fnFrameSpec)

/-- 'laws.FnFetch', WHERE WHAT IT READS IS OF BULK AT MOST 1048576: true; the input reads as it did. -/
def fnFetchUptoRow : OpenClaim := { program := "ytllcffakpobdlabdoor", sum := "3407054038792a5f587d34fd8bb5465b2937cd2b47f9c575f7733cbb3cfb3fee", func := "loop.example/g00644/laws.FnFetch", spec := "fnFetch", named := ["loop.example/g00644/impl.fetchPattern"], apart := false, laid := [("loop.example/g00644/impl.fetchPattern", laid_loop_example_g00644_impl_fetchPattern)], narrowed := true }
def FnFetchUptoSaid : Prop := fnFetchUptoRow.holds Tryd.pinned (OpenSpec.upto fnFetchSpec)

end Rows
end Go.Proofs.YtllcffakpobdlabDoor
