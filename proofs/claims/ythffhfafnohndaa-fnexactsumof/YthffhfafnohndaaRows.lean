/-
  No cell of these rows narrows 'for every input' (looked for: loops, veiled, ifaces, maps, wideKeys, modest, calm, conditions, laid).
  DERIVED. THE GIVEN ROWS OF THIS SEAT. 3 by the template 'for every input the law returns true; each argument reads behind the call as it read before'; 0 by the template 'total and deterministic' (their statements: YthffhfafnohndaaTotals.lean).
  GIVEN WITH THE SEED: the statements are not yours to turn. If you find one false, say at which input.
  Laid BY PROGRAM, IN A SANDBOX (cutbox-rows.mjs): the forced cells as the released guide's own fill.sh prints them over the translation 530fd1b6a6c3c052… (all of the seat's roots in one cut). By AI agents, Wed Nov 11 2026. No macro, syntax, notation, axiom, sorry.
-/
import Derived.Test.YthffhfafnohndaaChecked
import GoSem.Claim
import GoSem.ClaimJoined
import GoSem.ClaimMapViews
import Derived.JoinedTies
import Derived.KernelRfl
namespace Go.Proofs.Ythffhfafnohndaa
/- THE CELL 'sum', in the pinned program and in every row, IS THE sha256 OF THE DUMP (.gsa) THAT YthffhfafnohndaaProg.lean LOADS. Nothing in Lean hashes anything: it is a label: what it is worth is what the hold of that sum in a sandbox is worth. -/
noncomputable def Try.pinned : Pinned := { name := "ythffhfafnohndaa", sum := "530fd1b6a6c3c052f89b7f81b46cb33d26bda9ee9fc4e2d553c7be4659c9542f", checked := Try.checked }
namespace Rows
def none {H : Type} : Left H := { results := [], args := [] }

/-- 'laws.FnExactBlockOK': WHATEVER THE INPUT: true; the input reads as it did. -/
def fnExactBlockOKSpec : ChangeSpec := { name := "fnExactBlockOK", fn := fun _ => fun
  | [d] => { results := [.lit (.bool true)], args := [d] }
  | _ => none }
def fnExactBlockOKRow : OpenClaim := { program := "ythffhfafnohndaa", sum := "530fd1b6a6c3c052f89b7f81b46cb33d26bda9ee9fc4e2d553c7be4659c9542f", func := "loop.example/g00644/laws.FnExactBlockOK", spec := "fnExactBlockOK", apart := false }
def FnExactBlockOKSaid : Prop := fnExactBlockOKRow.holds Try.pinned (OpenSpec.ofChange fnExactBlockOKSpec)

/-- ITS FALSE NEIGHBOUR: 'it returns false'. Refute it at one input. -/
def fnExactBlockOKWrong : ChangeSpec := { name := "fnExactBlockOK", fn := fun _ => fun
  | [d] => { results := [.lit (.bool false)], args := [d] }
  | _ => none }
def FnExactBlockOKWrongFalsely : Prop := fnExactBlockOKRow.holds Try.pinned (OpenSpec.ofChange fnExactBlockOKWrong)

/-- 'laws.FnExactSumOf': WHATEVER THE INPUT: true; the input reads as it did. -/
def fnExactSumOfSpec : ChangeSpec := { name := "fnExactSumOf", fn := fun _ => fun
  | [d] => { results := [.lit (.bool true)], args := [d] }
  | _ => none }
def fnExactSumOfRow : OpenClaim := { program := "ythffhfafnohndaa", sum := "530fd1b6a6c3c052f89b7f81b46cb33d26bda9ee9fc4e2d553c7be4659c9542f", func := "loop.example/g00644/laws.FnExactSumOf", spec := "fnExactSumOf", apart := false }
def FnExactSumOfSaid : Prop := fnExactSumOfRow.holds Try.pinned (OpenSpec.ofChange fnExactSumOfSpec)

/-- ITS FALSE NEIGHBOUR: 'it returns false'. Refute it at one input. -/
def fnExactSumOfWrong : ChangeSpec := { name := "fnExactSumOf", fn := fun _ => fun
  | [d] => { results := [.lit (.bool false)], args := [d] }
  | _ => none }
def FnExactSumOfWrongFalsely : Prop := fnExactSumOfRow.holds Try.pinned (OpenSpec.ofChange fnExactSumOfWrong)

/-- 'laws.FnExactBlockText': WHATEVER THE INPUT: true; the input reads as it did. -/
def fnExactBlockTextSpec : ChangeSpec := { name := "fnExactBlockText", fn := fun _ => fun
  | [d] => { results := [.lit (.bool true)], args := [d] }
  | _ => none }
def fnExactBlockTextRow : OpenClaim := { program := "ythffhfafnohndaa", sum := "530fd1b6a6c3c052f89b7f81b46cb33d26bda9ee9fc4e2d553c7be4659c9542f", func := "loop.example/g00644/laws.FnExactBlockText", spec := "fnExactBlockText", apart := false }
def FnExactBlockTextSaid : Prop := fnExactBlockTextRow.holds Try.pinned (OpenSpec.ofChange fnExactBlockTextSpec)

/-- ITS FALSE NEIGHBOUR: 'it returns false'. Refute it at one input. -/
def fnExactBlockTextWrong : ChangeSpec := { name := "fnExactBlockText", fn := fun _ => fun
  | [d] => { results := [.lit (.bool false)], args := [d] }
  | _ => none }
def FnExactBlockTextWrongFalsely : Prop := fnExactBlockTextRow.holds Try.pinned (OpenSpec.ofChange fnExactBlockTextWrong)

/- THE SECOND FORM. 'bulk': how many values and letters a reading holds, each counted each time it is reached (what is shared counts as often as it is met; a slice's spare places count too). A statement '..UptoSaid' is the law's where the arguments, and the package variables that the reading takes, are together of bulk at most 1048576: NARROWER than '..Said'. Prove '..Said' where nothing that the law and all that it calls make is longer than what came in: it says more and counts as full. Else prove '..UptoSaid'. A law counts once. -/
mutual
def uptoBulk {H : Type} : DataW H → Nat
  | .lit (.string bytes) => bytes.length + 1
  | .lit _ => 1
  | .nil => 1
  | .ptr d => uptoBulk d + 1
  | .slice elems spare => uptoBulkAll elems + uptoBulkAll spare + 1
  | .agg parts => uptoBulkAll parts + 1
  | .iface _ d => uptoBulk d + 1
  | .map entries => uptoBulkEntries entries + 1
  | .held _ => 1
def uptoBulkAll {H : Type} : List (DataW H) → Nat
  | [] => 0
  | d :: r => uptoBulk d + uptoBulkAll r
def uptoBulkEntries {H : Type} : List (Lit × DataW H) → Nat
  | [] => 0
  | x :: r => uptoBulkEntry x + uptoBulkEntries r
def uptoBulkEntry {H : Type} : Lit × DataW H → Nat
  | (.string bytes, d) => bytes.length + uptoBulk d + 1
  | (_, d) => uptoBulk d + 1
 end
def uptoSmall : (H : Type) → List (DataW H) → Bool := fun _ ds => decide (uptoBulkAll ds ≤ 1048576)
def OpenSpec.upto (s : _root_.Go.ChangeSpec) : _root_.Go.OpenSpec := { _root_.Go.OpenSpec.ofChange s with cond := some uptoSmall }

/-- 'laws.FnExactBlockOK', WHERE WHAT IT READS IS OF BULK AT MOST 1048576: true; the input reads as it did. -/
def fnExactBlockOKUptoRow : OpenClaim := { program := "ythffhfafnohndaa", sum := "530fd1b6a6c3c052f89b7f81b46cb33d26bda9ee9fc4e2d553c7be4659c9542f", func := "loop.example/g00644/laws.FnExactBlockOK", spec := "fnExactBlockOK", apart := false, narrowed := true }
def FnExactBlockOKUptoSaid : Prop := fnExactBlockOKUptoRow.holds Try.pinned (OpenSpec.upto fnExactBlockOKSpec)

/-- 'laws.FnExactSumOf', WHERE WHAT IT READS IS OF BULK AT MOST 1048576: true; the input reads as it did. -/
def fnExactSumOfUptoRow : OpenClaim := { program := "ythffhfafnohndaa", sum := "530fd1b6a6c3c052f89b7f81b46cb33d26bda9ee9fc4e2d553c7be4659c9542f", func := "loop.example/g00644/laws.FnExactSumOf", spec := "fnExactSumOf", apart := false, narrowed := true }
def FnExactSumOfUptoSaid : Prop := fnExactSumOfUptoRow.holds Try.pinned (OpenSpec.upto fnExactSumOfSpec)

/-- 'laws.FnExactBlockText', WHERE WHAT IT READS IS OF BULK AT MOST 1048576: true; the input reads as it did. -/
def fnExactBlockTextUptoRow : OpenClaim := { program := "ythffhfafnohndaa", sum := "530fd1b6a6c3c052f89b7f81b46cb33d26bda9ee9fc4e2d553c7be4659c9542f", func := "loop.example/g00644/laws.FnExactBlockText", spec := "fnExactBlockText", apart := false, narrowed := true }
def FnExactBlockTextUptoSaid : Prop := fnExactBlockTextUptoRow.holds Try.pinned (OpenSpec.upto fnExactBlockTextSpec)

end Rows
end Go.Proofs.Ythffhfafnohndaa
