/-
  No cell of these rows narrows 'for every input' (looked for: loops, veiled, ifaces, maps, wideKeys, modest, calm, conditions, laid).
  DERIVED. THE GIVEN ROWS OF THIS SEAT. 3 by the template 'for every input the law returns true; each argument reads behind the call as it read before'; 0 by the template 'total and deterministic' (their statements: YtohnddjijedfkabTotals.lean).
  GIVEN WITH THE SEED: the statements are not yours to turn. If you find one false, say at which input.
  Laid BY PROGRAM, IN A SANDBOX (cutbox-rows.mjs): the forced cells as the released guide's own fill.sh prints them over the translation 7bd44f1ee9d2d63a… (all of the seat's roots in one cut). By AI agents, Wed Nov 11 2026. No macro, syntax, notation, axiom, sorry.
-/
import Derived.Test.YtohnddjijedfkabChecked
import GoSem.Claim
import GoSem.ClaimJoined
import GoSem.ClaimMapViews
import Derived.JoinedTies
import Derived.KernelRfl
namespace Go.Proofs.Ytohnddjijedfkab
/- THE CELL 'sum', in the pinned program and in every row, IS THE sha256 OF THE DUMP (.gsa) THAT YtohnddjijedfkabProg.lean LOADS. Nothing in Lean hashes anything: it is a label: what it is worth is what the hold of that sum in a sandbox is worth. -/
noncomputable def Try.pinned : Pinned := { name := "ytohnddjijedfkab", sum := "7bd44f1ee9d2d63a53f75e224b4ed591e050c938aa087f84a962a8a468e1a02c", checked := Try.checked }
namespace Rows
def none {H : Type} : Left H := { results := [], args := [] }

/-- 'laws.FnExactRewindDeck': WHATEVER THE INPUT: true; the input reads as it did. -/
def fnExactRewindDeckSpec : ChangeSpec := { name := "fnExactRewindDeck", fn := fun _ => fun
  | [d] => { results := [.lit (.bool true)], args := [d] }
  | _ => none }
def fnExactRewindDeckRow : OpenClaim := { program := "ytohnddjijedfkab", sum := "7bd44f1ee9d2d63a53f75e224b4ed591e050c938aa087f84a962a8a468e1a02c", func := "loop.example/g00644/laws.FnExactRewindDeck", spec := "fnExactRewindDeck", apart := false }
def FnExactRewindDeckSaid : Prop := fnExactRewindDeckRow.holds Try.pinned (OpenSpec.ofChange fnExactRewindDeckSpec)

/-- ITS FALSE NEIGHBOUR: 'it returns false'. Refute it at one input. -/
def fnExactRewindDeckWrong : ChangeSpec := { name := "fnExactRewindDeck", fn := fun _ => fun
  | [d] => { results := [.lit (.bool false)], args := [d] }
  | _ => none }
def FnExactRewindDeckWrongFalsely : Prop := fnExactRewindDeckRow.holds Try.pinned (OpenSpec.ofChange fnExactRewindDeckWrong)

/-- 'laws.FnExactRunDeck': WHATEVER THE INPUT: true; the input reads as it did. -/
def fnExactRunDeckSpec : ChangeSpec := { name := "fnExactRunDeck", fn := fun _ => fun
  | [d1, d2] => { results := [.lit (.bool true)], args := [d1, d2] }
  | _ => none }
def fnExactRunDeckRow : OpenClaim := { program := "ytohnddjijedfkab", sum := "7bd44f1ee9d2d63a53f75e224b4ed591e050c938aa087f84a962a8a468e1a02c", func := "loop.example/g00644/laws.FnExactRunDeck", spec := "fnExactRunDeck", apart := false }
def FnExactRunDeckSaid : Prop := fnExactRunDeckRow.holds Try.pinned (OpenSpec.ofChange fnExactRunDeckSpec)

/-- ITS FALSE NEIGHBOUR: 'it returns false'. Refute it at one input. -/
def fnExactRunDeckWrong : ChangeSpec := { name := "fnExactRunDeck", fn := fun _ => fun
  | [d1, d2] => { results := [.lit (.bool false)], args := [d1, d2] }
  | _ => none }
def FnExactRunDeckWrongFalsely : Prop := fnExactRunDeckRow.holds Try.pinned (OpenSpec.ofChange fnExactRunDeckWrong)

/-- 'laws.FnExactSameDeck': WHATEVER THE INPUT: true; the input reads as it did. -/
def fnExactSameDeckSpec : ChangeSpec := { name := "fnExactSameDeck", fn := fun _ => fun
  | [d1, d2] => { results := [.lit (.bool true)], args := [d1, d2] }
  | _ => none }
def fnExactSameDeckRow : OpenClaim := { program := "ytohnddjijedfkab", sum := "7bd44f1ee9d2d63a53f75e224b4ed591e050c938aa087f84a962a8a468e1a02c", func := "loop.example/g00644/laws.FnExactSameDeck", spec := "fnExactSameDeck", apart := false }
def FnExactSameDeckSaid : Prop := fnExactSameDeckRow.holds Try.pinned (OpenSpec.ofChange fnExactSameDeckSpec)

/-- ITS FALSE NEIGHBOUR: 'it returns false'. Refute it at one input. -/
def fnExactSameDeckWrong : ChangeSpec := { name := "fnExactSameDeck", fn := fun _ => fun
  | [d1, d2] => { results := [.lit (.bool false)], args := [d1, d2] }
  | _ => none }
def FnExactSameDeckWrongFalsely : Prop := fnExactSameDeckRow.holds Try.pinned (OpenSpec.ofChange fnExactSameDeckWrong)

/- THE SECOND FORM. 'bulk': how many values and letters a reading holds, each counted each time it is reached (what is shared counts as often as it is met; a slice's spare places count too). A statement '..UptoSaid' is the law's where the arguments, and the package variables that the reading takes, are together of bulk at most 1048576: NARROWER than '..Said'. Prove '..Said' where nothing that the law and all that it calls make is longer than what came in: it says more and counts as full. Else prove '..UptoSaid'. A law counts once. -/
mutual
def uptoBulk {H : Type} : DataW H → Nat
  | .lit (.string bytes) => bytes.length + 1
  | .lit _ => 1
  | .nil => 1
  | .ptr d => uptoBulk d + 1
  | .slice elems spare => uptoBulkAll elems + uptoBulkAll spare + 1
  | .agg parts => uptoBulkAll parts + 1
  | .iface _ d => uptoBulk d + 1
  | .map entries => uptoBulkEntries entries + 1
  | .held _ => 1
def uptoBulkAll {H : Type} : List (DataW H) → Nat
  | [] => 0
  | d :: r => uptoBulk d + uptoBulkAll r
def uptoBulkEntries {H : Type} : List (Lit × DataW H) → Nat
  | [] => 0
  | x :: r => uptoBulkEntry x + uptoBulkEntries r
def uptoBulkEntry {H : Type} : Lit × DataW H → Nat
  | (.string bytes, d) => bytes.length + uptoBulk d + 1
  | (_, d) => uptoBulk d + 1
 end
def uptoSmall : (H : Type) → List (DataW H) → Bool := fun _ ds => decide (uptoBulkAll ds ≤ 1048576)
def OpenSpec.upto (s : _root_.Go.ChangeSpec) : _root_.Go.OpenSpec := { _root_.Go.OpenSpec.ofChange s with cond := some uptoSmall }

/-- 'laws.FnExactRewindDeck', WHERE WHAT IT READS IS OF BULK AT MOST 1048576: true; the input reads as it did. -/
def fnExactRewindDeckUptoRow : OpenClaim := { program := "ytohnddjijedfkab", sum := "7bd44f1ee9d2d63a53f75e224b4ed591e050c938aa087f84a962a8a468e1a02c", func := "loop.example/g00644/laws.FnExactRewindDeck", spec := "fnExactRewindDeck", apart := false, narrowed := true }
def FnExactRewindDeckUptoSaid : Prop := fnExactRewindDeckUptoRow.holds Try.pinned (OpenSpec.upto fnExactRewindDeckSpec)

/-- 'laws.FnExactRunDeck', WHERE WHAT IT READS IS OF BULK AT MOST 1048576: true; the input reads as it did. -/
def fnExactRunDeckUptoRow : OpenClaim := { program := "ytohnddjijedfkab", sum := "7bd44f1ee9d2d63a53f75e224b4ed591e050c938aa087f84a962a8a468e1a02c", func := "loop.example/g00644/laws.FnExactRunDeck", spec := "fnExactRunDeck", apart := false, narrowed := true }
def FnExactRunDeckUptoSaid : Prop := fnExactRunDeckUptoRow.holds Try.pinned (OpenSpec.upto fnExactRunDeckSpec)

/-- 'laws.FnExactSameDeck', WHERE WHAT IT READS IS OF BULK AT MOST 1048576: true; the input reads as it did. -/
def fnExactSameDeckUptoRow : OpenClaim := { program := "ytohnddjijedfkab", sum := "7bd44f1ee9d2d63a53f75e224b4ed591e050c938aa087f84a962a8a468e1a02c", func := "loop.example/g00644/laws.FnExactSameDeck", spec := "fnExactSameDeck", apart := false, narrowed := true }
def FnExactSameDeckUptoSaid : Prop := fnExactSameDeckUptoRow.holds Try.pinned (OpenSpec.upto fnExactSameDeckSpec)

end Rows
end Go.Proofs.Ytohnddjijedfkab
