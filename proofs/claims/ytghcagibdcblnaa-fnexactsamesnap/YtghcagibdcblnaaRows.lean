/-
  No cell of these rows narrows 'for every input' (looked for: loops, veiled, ifaces, maps, wideKeys, modest, calm, conditions, laid).
  DERIVED. THE GIVEN ROWS OF THIS SEAT. 3 by the template 'for every input the law returns true; each argument reads behind the call as it read before'; 0 by the template 'total and deterministic' (their statements: YtghcagibdcblnaaTotals.lean).
  GIVEN WITH THE SEED: the statements are not yours to turn. If you find one false, say at which input.
  Laid BY PROGRAM, IN A SANDBOX (cutbox-rows.mjs): the forced cells as the released guide's own fill.sh prints them over the translation a3b3b4e41b9a0c58… (all of the seat's roots in one cut). By AI agents, Wed Nov 11 2026. No macro, syntax, notation, axiom, sorry.
-/
import Derived.Test.YtghcagibdcblnaaChecked
import GoSem.Claim
import GoSem.ClaimJoined
import GoSem.ClaimMapViews
import Derived.JoinedTies
import Derived.KernelRfl
namespace Go.Proofs.Ytghcagibdcblnaa
/- THE CELL 'sum', in the pinned program and in every row, IS THE sha256 OF THE DUMP (.gsa) THAT YtghcagibdcblnaaProg.lean LOADS. Nothing in Lean hashes anything: it is a label: what it is worth is what the hold of that sum in a sandbox is worth. -/
noncomputable def Try.pinned : Pinned := { name := "ytghcagibdcblnaa", sum := "a3b3b4e41b9a0c5855bb9bea6bf125086700d821ca55d101b6ff1cce054e88b8", checked := Try.checked }
namespace Rows
def none {H : Type} : Left H := { results := [], args := [] }

/-- 'laws.FnExactSnapOK': WHATEVER THE INPUT: true; the input reads as it did. -/
def fnExactSnapOKSpec : ChangeSpec := { name := "fnExactSnapOK", fn := fun _ => fun
  | [d] => { results := [.lit (.bool true)], args := [d] }
  | _ => none }
def fnExactSnapOKRow : OpenClaim := { program := "ytghcagibdcblnaa", sum := "a3b3b4e41b9a0c5855bb9bea6bf125086700d821ca55d101b6ff1cce054e88b8", func := "loop.example/g00644/laws.FnExactSnapOK", spec := "fnExactSnapOK", apart := false }
def FnExactSnapOKSaid : Prop := fnExactSnapOKRow.holds Try.pinned (OpenSpec.ofChange fnExactSnapOKSpec)

/-- ITS FALSE NEIGHBOUR: 'it returns false'. Refute it at one input. -/
def fnExactSnapOKWrong : ChangeSpec := { name := "fnExactSnapOK", fn := fun _ => fun
  | [d] => { results := [.lit (.bool false)], args := [d] }
  | _ => none }
def FnExactSnapOKWrongFalsely : Prop := fnExactSnapOKRow.holds Try.pinned (OpenSpec.ofChange fnExactSnapOKWrong)

/-- 'laws.FnExactSnapText': WHATEVER THE INPUT: true; the input reads as it did. -/
def fnExactSnapTextSpec : ChangeSpec := { name := "fnExactSnapText", fn := fun _ => fun
  | [d] => { results := [.lit (.bool true)], args := [d] }
  | _ => none }
def fnExactSnapTextRow : OpenClaim := { program := "ytghcagibdcblnaa", sum := "a3b3b4e41b9a0c5855bb9bea6bf125086700d821ca55d101b6ff1cce054e88b8", func := "loop.example/g00644/laws.FnExactSnapText", spec := "fnExactSnapText", inPlace := ["internal/abi.NoEscape", "internal/bytealg.MakeNoZero"], unfollowed := true, recurses := true, apart := false }
def FnExactSnapTextSaid : Prop := fnExactSnapTextRow.holds Try.pinned (OpenSpec.ofChange fnExactSnapTextSpec)

/-- ITS FALSE NEIGHBOUR: 'it returns false'. Refute it at one input. -/
def fnExactSnapTextWrong : ChangeSpec := { name := "fnExactSnapText", fn := fun _ => fun
  | [d] => { results := [.lit (.bool false)], args := [d] }
  | _ => none }
def FnExactSnapTextWrongFalsely : Prop := fnExactSnapTextRow.holds Try.pinned (OpenSpec.ofChange fnExactSnapTextWrong)

/-- 'laws.FnExactSameSnap': WHATEVER THE INPUT: true; the input reads as it did. -/
def fnExactSameSnapSpec : ChangeSpec := { name := "fnExactSameSnap", fn := fun _ => fun
  | [d1, d2] => { results := [.lit (.bool true)], args := [d1, d2] }
  | _ => none }
def fnExactSameSnapRow : OpenClaim := { program := "ytghcagibdcblnaa", sum := "a3b3b4e41b9a0c5855bb9bea6bf125086700d821ca55d101b6ff1cce054e88b8", func := "loop.example/g00644/laws.FnExactSameSnap", spec := "fnExactSameSnap", inPlace := ["internal/abi.NoEscape", "internal/bytealg.MakeNoZero"], unfollowed := true, recurses := true, apart := false }
def FnExactSameSnapSaid : Prop := fnExactSameSnapRow.holds Try.pinned (OpenSpec.ofChange fnExactSameSnapSpec)

/-- ITS FALSE NEIGHBOUR: 'it returns false'. Refute it at one input. -/
def fnExactSameSnapWrong : ChangeSpec := { name := "fnExactSameSnap", fn := fun _ => fun
  | [d1, d2] => { results := [.lit (.bool false)], args := [d1, d2] }
  | _ => none }
def FnExactSameSnapWrongFalsely : Prop := fnExactSameSnapRow.holds Try.pinned (OpenSpec.ofChange fnExactSameSnapWrong)

/- THE SECOND FORM. 'bulk': how many values and letters a reading holds, each counted each time it is reached (what is shared counts as often as it is met; a slice's spare places count too). A statement '..UptoSaid' is the law's where the arguments, and the package variables that the reading takes, are together of bulk at most 1048576: NARROWER than '..Said'. Prove '..Said' where nothing that the law and all that it calls make is longer than what came in: it says more and counts as full. Else prove '..UptoSaid'. A law counts once. -/
mutual
def uptoBulk {H : Type} : DataW H → Nat
  | .lit (.string bytes) => bytes.length + 1
  | .lit _ => 1
  | .nil => 1
  | .ptr d => uptoBulk d + 1
  | .slice elems spare => uptoBulkAll elems + uptoBulkAll spare + 1
  | .agg parts => uptoBulkAll parts + 1
  | .iface _ d => uptoBulk d + 1
  | .map entries => uptoBulkEntries entries + 1
  | .held _ => 1
def uptoBulkAll {H : Type} : List (DataW H) → Nat
  | [] => 0
  | d :: r => uptoBulk d + uptoBulkAll r
def uptoBulkEntries {H : Type} : List (Lit × DataW H) → Nat
  | [] => 0
  | x :: r => uptoBulkEntry x + uptoBulkEntries r
def uptoBulkEntry {H : Type} : Lit × DataW H → Nat
  | (.string bytes, d) => bytes.length + uptoBulk d + 1
  | (_, d) => uptoBulk d + 1
 end
def uptoSmall : (H : Type) → List (DataW H) → Bool := fun _ ds => decide (uptoBulkAll ds ≤ 1048576)
def OpenSpec.upto (s : _root_.Go.ChangeSpec) : _root_.Go.OpenSpec := { _root_.Go.OpenSpec.ofChange s with cond := some uptoSmall }

/-- 'laws.FnExactSnapOK', WHERE WHAT IT READS IS OF BULK AT MOST 1048576: true; the input reads as it did. -/
def fnExactSnapOKUptoRow : OpenClaim := { program := "ytghcagibdcblnaa", sum := "a3b3b4e41b9a0c5855bb9bea6bf125086700d821ca55d101b6ff1cce054e88b8", func := "loop.example/g00644/laws.FnExactSnapOK", spec := "fnExactSnapOK", apart := false, narrowed := true }
def FnExactSnapOKUptoSaid : Prop := fnExactSnapOKUptoRow.holds Try.pinned (OpenSpec.upto fnExactSnapOKSpec)

/-- 'laws.FnExactSnapText', WHERE WHAT IT READS IS OF BULK AT MOST 1048576: true; the input reads as it did. -/
def fnExactSnapTextUptoRow : OpenClaim := { program := "ytghcagibdcblnaa", sum := "a3b3b4e41b9a0c5855bb9bea6bf125086700d821ca55d101b6ff1cce054e88b8", func := "loop.example/g00644/laws.FnExactSnapText", spec := "fnExactSnapText", inPlace := ["internal/abi.NoEscape", "internal/bytealg.MakeNoZero"], unfollowed := true, recurses := true, apart := false, narrowed := true }
def FnExactSnapTextUptoSaid : Prop := fnExactSnapTextUptoRow.holds Try.pinned (OpenSpec.upto fnExactSnapTextSpec)

/-- 'laws.FnExactSameSnap', WHERE WHAT IT READS IS OF BULK AT MOST 1048576: true; the input reads as it did. -/
def fnExactSameSnapUptoRow : OpenClaim := { program := "ytghcagibdcblnaa", sum := "a3b3b4e41b9a0c5855bb9bea6bf125086700d821ca55d101b6ff1cce054e88b8", func := "loop.example/g00644/laws.FnExactSameSnap", spec := "fnExactSameSnap", inPlace := ["internal/abi.NoEscape", "internal/bytealg.MakeNoZero"], unfollowed := true, recurses := true, apart := false, narrowed := true }
def FnExactSameSnapUptoSaid : Prop := fnExactSameSnapUptoRow.holds Try.pinned (OpenSpec.upto fnExactSameSnapSpec)

end Rows
end Go.Proofs.Ytghcagibdcblnaa
