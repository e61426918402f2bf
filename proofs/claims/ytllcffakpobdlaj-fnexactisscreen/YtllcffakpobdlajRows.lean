/-
  No cell of these rows narrows 'for every input' (looked for: loops, veiled, ifaces, maps, wideKeys, modest, calm, conditions, laid).
  DERIVED. THE GIVEN ROWS OF THIS SEAT. 3 by the template 'for every input the law returns true; each argument reads behind the call as it read before'; 0 by the template 'total and deterministic' (their statements: YtllcffakpobdlajTotals.lean).
  GIVEN WITH THE SEED: the statements are not yours to turn. If you find one false, say at which input.
  Laid BY PROGRAM, IN A SANDBOX (cutbox-rows.mjs): the forced cells as the released guide's own fill.sh prints them over the translation af5e69c91a48ae9e… (all of the seat's roots in one cut). By AI agents, Wed Nov 11 2026. No macro, syntax, notation, axiom, sorry.
-/
import Derived.Test.YtllcffakpobdlajChecked
import GoSem.Claim
import GoSem.ClaimJoined
import GoSem.ClaimMapViews
import Derived.JoinedTies
import Derived.KernelRfl
namespace Go.Proofs.Ytllcffakpobdlaj
/- THE CELL 'sum', in the pinned program and in every row, IS THE sha256 OF THE DUMP (.gsa) THAT YtllcffakpobdlajProg.lean LOADS. Nothing in Lean hashes anything: it is a label: what it is worth is what the hold of that sum in a sandbox is worth. -/
noncomputable def Try.pinned : Pinned := { name := "ytllcffakpobdlaj", sum := "af5e69c91a48ae9ed474feec9df6960ba3b5410e1172c072799f04ea65dde9d5", checked := Try.checked }
namespace Rows
def none {H : Type} : Left H := { results := [], args := [] }

/-- 'laws.FnExactTestBit': WHATEVER THE INPUT: true; the input reads as it did. -/
def fnExactTestBitSpec : ChangeSpec := { name := "fnExactTestBit", fn := fun _ => fun
  | [d1, d2, d3] => { results := [.lit (.bool true)], args := [d1, d2, d3] }
  | _ => none }
def fnExactTestBitRow : OpenClaim := { program := "ytllcffakpobdlaj", sum := "af5e69c91a48ae9ed474feec9df6960ba3b5410e1172c072799f04ea65dde9d5", func := "loop.example/g00644/laws.FnExactTestBit", spec := "fnExactTestBit", apart := false }
def FnExactTestBitSaid : Prop := fnExactTestBitRow.holds Try.pinned (OpenSpec.ofChange fnExactTestBitSpec)

/-- ITS FALSE NEIGHBOUR: 'it returns false'. Refute it at one input. -/
def fnExactTestBitWrong : ChangeSpec := { name := "fnExactTestBit", fn := fun _ => fun
  | [d1, d2, d3] => { results := [.lit (.bool false)], args := [d1, d2, d3] }
  | _ => none }
def FnExactTestBitWrongFalsely : Prop := fnExactTestBitRow.holds Try.pinned (OpenSpec.ofChange fnExactTestBitWrong)

/-- 'laws.FnExactLineOf': WHATEVER THE INPUT: true; the input reads as it did. -/
def fnExactLineOfSpec : ChangeSpec := { name := "fnExactLineOf", fn := fun _ => fun
  | [d] => { results := [.lit (.bool true)], args := [d] }
  | _ => none }
def fnExactLineOfRow : OpenClaim := { program := "ytllcffakpobdlaj", sum := "af5e69c91a48ae9ed474feec9df6960ba3b5410e1172c072799f04ea65dde9d5", func := "loop.example/g00644/laws.FnExactLineOf", spec := "fnExactLineOf", apart := false }
def FnExactLineOfSaid : Prop := fnExactLineOfRow.holds Try.pinned (OpenSpec.ofChange fnExactLineOfSpec)

/-- ITS FALSE NEIGHBOUR: 'it returns false'. Refute it at one input. -/
def fnExactLineOfWrong : ChangeSpec := { name := "fnExactLineOf", fn := fun _ => fun
  | [d] => { results := [.lit (.bool false)], args := [d] }
  | _ => none }
def FnExactLineOfWrongFalsely : Prop := fnExactLineOfRow.holds Try.pinned (OpenSpec.ofChange fnExactLineOfWrong)

/-- 'laws.FnExactIsScreen': WHATEVER THE INPUT: true; the input reads as it did. -/
def fnExactIsScreenSpec : ChangeSpec := { name := "fnExactIsScreen", fn := fun _ => fun
  | [d] => { results := [.lit (.bool true)], args := [d] }
  | _ => none }
def fnExactIsScreenRow : OpenClaim := { program := "ytllcffakpobdlaj", sum := "af5e69c91a48ae9ed474feec9df6960ba3b5410e1172c072799f04ea65dde9d5", func := "loop.example/g00644/laws.FnExactIsScreen", spec := "fnExactIsScreen", apart := false }
def FnExactIsScreenSaid : Prop := fnExactIsScreenRow.holds Try.pinned (OpenSpec.ofChange fnExactIsScreenSpec)

/-- ITS FALSE NEIGHBOUR: 'it returns false'. Refute it at one input. -/
def fnExactIsScreenWrong : ChangeSpec := { name := "fnExactIsScreen", fn := fun _ => fun
  | [d] => { results := [.lit (.bool false)], args := [d] }
  | _ => none }
def FnExactIsScreenWrongFalsely : Prop := fnExactIsScreenRow.holds Try.pinned (OpenSpec.ofChange fnExactIsScreenWrong)

/- THE SECOND FORM. 'bulk': how many values and letters a reading holds, each counted each time it is reached (what is shared counts as often as it is met; a slice's spare places count too). A statement '..UptoSaid' is the law's where the arguments, and the package variables that the reading takes, are together of bulk at most 1048576: NARROWER than '..Said'. Prove '..Said' where nothing that the law and all that it calls make is longer than what came in: it says more and counts as full. Else prove '..UptoSaid'. A law counts once. -/
mutual
def uptoBulk {H : Type} : DataW H → Nat
  | .lit (.string bytes) => bytes.length + 1
  | .lit _ => 1
  | .nil => 1
  | .ptr d => uptoBulk d + 1
  | .slice elems spare => uptoBulkAll elems + uptoBulkAll spare + 1
  | .agg parts => uptoBulkAll parts + 1
  | .iface _ d => uptoBulk d + 1
  | .map entries => uptoBulkEntries entries + 1
  | .held _ => 1
def uptoBulkAll {H : Type} : List (DataW H) → Nat
  | [] => 0
  | d :: r => uptoBulk d + uptoBulkAll r
def uptoBulkEntries {H : Type} : List (Lit × DataW H) → Nat
  | [] => 0
  | x :: r => uptoBulkEntry x + uptoBulkEntries r
def uptoBulkEntry {H : Type} : Lit × DataW H → Nat
  | (.string bytes, d) => bytes.length + uptoBulk d + 1
  | (_, d) => uptoBulk d + 1
 end
def uptoSmall : (H : Type) → List (DataW H) → Bool := fun _ ds => decide (uptoBulkAll ds ≤ 1048576)
def OpenSpec.upto (s : _root_.Go.ChangeSpec) : _root_.Go.OpenSpec := { _root_.Go.OpenSpec.ofChange s with cond := some uptoSmall }

/-- 'laws.FnExactTestBit', WHERE WHAT IT READS IS OF BULK AT MOST 1048576: true; the input reads as it did. -/
def fnExactTestBitUptoRow : OpenClaim := { program := "ytllcffakpobdlaj", sum := "af5e69c91a48ae9ed474feec9df6960ba3b5410e1172c072799f04ea65dde9d5", func := "loop.example/g00644/laws.FnExactTestBit", spec := "fnExactTestBit", apart := false, narrowed := true }
def FnExactTestBitUptoSaid : Prop := fnExactTestBitUptoRow.holds Try.pinned (OpenSpec.upto fnExactTestBitSpec)

/-- 'laws.FnExactLineOf', WHERE WHAT IT READS IS OF BULK AT MOST 1048576: true; the input reads as it did. -/
def fnExactLineOfUptoRow : OpenClaim := { program := "ytllcffakpobdlaj", sum := "af5e69c91a48ae9ed474feec9df6960ba3b5410e1172c072799f04ea65dde9d5", func := "loop.example/g00644/laws.FnExactLineOf", spec := "fnExactLineOf", apart := false, narrowed := true }
def FnExactLineOfUptoSaid : Prop := fnExactLineOfUptoRow.holds Try.pinned (OpenSpec.upto fnExactLineOfSpec)

/-- 'laws.FnExactIsScreen', WHERE WHAT IT READS IS OF BULK AT MOST 1048576: true; the input reads as it did. -/
def fnExactIsScreenUptoRow : OpenClaim := { program := "ytllcffakpobdlaj", sum := "af5e69c91a48ae9ed474feec9df6960ba3b5410e1172c072799f04ea65dde9d5", func := "loop.example/g00644/laws.FnExactIsScreen", spec := "fnExactIsScreen", apart := false, narrowed := true }
def FnExactIsScreenUptoSaid : Prop := fnExactIsScreenUptoRow.holds Try.pinned (OpenSpec.upto fnExactIsScreenSpec)

end Rows
end Go.Proofs.Ytllcffakpobdlaj
