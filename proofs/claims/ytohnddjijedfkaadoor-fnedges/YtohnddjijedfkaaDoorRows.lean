/-
  NARROWER THAN 'FOR EVERY INPUT', by the rows' own cells (each row's printed sentence says how): FnEdges: laid · FnExactNewDeck: laid.
  DERIVED. THE GIVEN ROWS OF THIS SEAT. 2 by the template 'for every input the law returns true; each argument reads behind the call as it read before'; 0 by the template 'total and deterministic' (their statements: YtohnddjijedfkaaDoorTotals.lean).
  GIVEN WITH THE SEED: the statements are not yours to turn. If you find one false, say at which input.
  Laid BY PROGRAM, IN A SANDBOX (cutbox-rows.mjs): the forced cells as the released guide's own fill.sh prints them over the translation f931ef8ced69b43a… (all of the seat's roots in one cut). By AI agents, Wed Nov 11 2026. No macro, syntax, notation, axiom, sorry.
-/
import Derived.Test.YtohnddjijedfkaaDoorChecked
import GoSem.Claim
import GoSem.ClaimJoined
import GoSem.ClaimMapViews
import Derived.JoinedTies
import Derived.KernelRfl
namespace Go.Proofs.YtohnddjijedfkaaDoor
/- THE CELL 'sum', in the pinned program and in every row, IS THE sha256 OF THE DUMP (.gsa) THAT YtohnddjijedfkaaDoorProg.lean LOADS. Nothing in Lean hashes anything: it is a label: what it is worth is what the hold of that sum in a sandbox is worth. -/
noncomputable def Tryd.pinned : Pinned := { name := "ytohnddjijedfkaadoor", sum := "f931ef8ced69b43ad27842cbe15773c212e943da4bbe520f6b8e5abb4e84d65c", checked := Tryd.checked }
namespace Rows
def none {H : Type} : Left H := { results := [], args := [] }

/- WHAT THE LISTED PACKAGE-LEVEL VARIABLES READ AS WHEN THE CALL BEGINS. Each datum BY PROGRAM (the guide's laid-datum.mjs) off the statement by which the dump's own 'gosem.cut.vars' lays the variable. In a bare row this is a premise. The card (YtohnddjijedfkaaDoorCards.lean) ties it to the program's text. -/
def laid_loop_example_g00644_impl_bitTimes {H : Type} : DataW H := .agg [.lit (.int .i64 20), .lit (.int .i64 40)]

/-- 'laws.FnEdges': WHATEVER THE INPUT: true; the input reads as it did. -/
def fnEdgesSpec : ChangeSpec := { name := "fnEdges", vars := ["loop.example/g00644/impl.bitTimes"], fn := fun _ => fun
  | [d1, d2, g1] => { results := [.lit (.bool true)], args := [d1, d2], vars := [g1] }
  | _ => none }
def fnEdgesRow : OpenClaim := { program := "ytohnddjijedfkaadoor", sum := "f931ef8ced69b43ad27842cbe15773c212e943da4bbe520f6b8e5abb4e84d65c", func := "loop.example/g00644/laws.FnEdges", spec := "fnEdges", unfollowed := true, recurses := true, named := ["loop.example/g00644/impl.bitTimes"], apart := false, laid := [("loop.example/g00644/impl.bitTimes", laid_loop_example_g00644_impl_bitTimes)] }
def FnEdgesSaid : Prop := fnEdgesRow.holds Tryd.pinned (OpenSpec.ofChange fnEdgesSpec)

/-- ITS FALSE NEIGHBOUR: 'it returns false'. Refute it at one input. -/
def fnEdgesWrong : ChangeSpec := { name := "fnEdges", vars := ["loop.example/g00644/impl.bitTimes"], fn := fun _ => fun
  | [d1, d2, g1] => { results := [.lit (.bool false)], args := [d1, d2], vars := [g1] }
  | _ => none }
def FnEdgesWrongFalsely : Prop := fnEdgesRow.holds Tryd.pinned (OpenSpec.ofChange fnEdgesWrong)

/-- 'laws.FnExactNewDeck': WHATEVER THE INPUT: true; the input reads as it did. -/
def fnExactNewDeckSpec : ChangeSpec := { name := "fnExactNewDeck", vars := ["loop.example/g00644/impl.bitTimes"], fn := fun _ => fun
  | [d, g1] => { results := [.lit (.bool true)], args := [d], vars := [g1] }
  | _ => none }
def fnExactNewDeckRow : OpenClaim := { program := "ytohnddjijedfkaadoor", sum := "f931ef8ced69b43ad27842cbe15773c212e943da4bbe520f6b8e5abb4e84d65c", func := "loop.example/g00644/laws.FnExactNewDeck", spec := "fnExactNewDeck", unfollowed := true, recurses := true, named := ["loop.example/g00644/impl.bitTimes"], apart := false, laid := [("loop.example/g00644/impl.bitTimes", laid_loop_example_g00644_impl_bitTimes)] }
def FnExactNewDeckSaid : Prop := fnExactNewDeckRow.holds Tryd.pinned (OpenSpec.ofChange fnExactNewDeckSpec)

/-- ITS FALSE NEIGHBOUR: 'it returns false'. Refute it at one input. -/
def fnExactNewDeckWrong : ChangeSpec := { name := "fnExactNewDeck", vars := ["loop.example/g00644/impl.bitTimes"], fn := fun _ => fun
  | [d, g1] => { results := [.lit (.bool false)], args := [d], vars := [g1] }
  | _ => none }
def FnExactNewDeckWrongFalsely : Prop := fnExactNewDeckRow.holds Tryd.pinned (OpenSpec.ofChange fnExactNewDeckWrong)

/- THE SECOND FORM. 'bulk': how many values and letters a reading holds, each counted each time it is reached (what is shared counts as often as it is met; a slice's spare places count too). A statement '..UptoSaid' is the law's where the arguments, and the package variables that the reading takes, are together of bulk at most 1048576: NARROWER than '..Said'. Prove '..Said' where nothing that the law and all that it calls make is longer than what came in: it says more and counts as full. Else prove '..UptoSaid'. A law counts once. -/
mutual
def uptoBulk {H : Type} : DataW H → Nat
  | .lit (.string bytes) => bytes.length + 1
  | .lit _ => 1
  | .nil => 1
  | .ptr d => uptoBulk d + 1
  | .slice elems spare => uptoBulkAll elems + uptoBulkAll spare + 1
  | .agg parts => uptoBulkAll parts + 1
  | .iface _ d => uptoBulk d + 1
  | .map entries => uptoBulkEntries entries + 1
  | .held _ => 1
def uptoBulkAll {H : Type} : List (DataW H) → Nat
  | [] => 0
  | d :: r => uptoBulk d + uptoBulkAll r
def uptoBulkEntries {H : Type} : List (Lit × DataW H) → Nat
  | [] => 0
  | x :: r => uptoBulkEntry x + uptoBulkEntries r
def uptoBulkEntry {H : Type} : Lit × DataW H → Nat
  | (.string bytes, d) => bytes.length + uptoBulk d + 1
  | (_, d) => uptoBulk d + 1
 end
def uptoSmall : (H : Type) → List (DataW H) → Bool := fun _ ds => decide (uptoBulkAll ds ≤ 1048576)
def OpenSpec.upto (s : _root_.Go.ChangeSpec) : _root_.Go.OpenSpec := { _root_.Go.OpenSpec.ofChange s with cond := some uptoSmall }

/-- 'laws.FnEdges', WHERE WHAT IT READS IS OF BULK AT MOST 1048576: true; the input reads as it did. -/
def fnEdgesUptoRow : OpenClaim := { program := "ytohnddjijedfkaadoor", sum := "f931ef8ced69b43ad27842cbe15773c212e943da4bbe520f6b8e5abb4e84d65c", func := "loop.example/g00644/laws.FnEdges", spec := "fnEdges", unfollowed := true, recurses := true, named := ["loop.example/g00644/impl.bitTimes"], apart := false, laid := [("loop.example/g00644/impl.bitTimes", laid_loop_example_g00644_impl_bitTimes)], narrowed := true }
def FnEdgesUptoSaid : Prop := fnEdgesUptoRow.holds Tryd.pinned (OpenSpec.upto fnEdgesSpec)

/-- 'laws.FnExactNewDeck', WHERE WHAT IT READS IS OF BULK AT MOST 1048576: true; the input reads as it did. -/
def fnExactNewDeckUptoRow : OpenClaim := { program := "ytohnddjijedfkaadoor", sum := "f931ef8ced69b43ad27842cbe15773c212e943da4bbe520f6b8e5abb4e84d65c", func := "loop.example/g00644/laws.FnExactNewDeck", spec := "fnExactNewDeck", unfollowed := true, recurses := true, named := ["loop.example/g00644/impl.bitTimes"], apart := false, laid := [("loop.example/g00644/impl.bitTimes", laid_loop_example_g00644_impl_bitTimes)], narrowed := true }
def FnExactNewDeckUptoSaid : Prop := fnExactNewDeckUptoRow.holds Tryd.pinned (OpenSpec.upto fnExactNewDeckSpec)

end Rows
end Go.Proofs.YtohnddjijedfkaaDoor
