/-
  NARROWER THAN 'FOR EVERY INPUT', by the rows' own cells (each row's printed sentence says how): FnExactDecode: laid · FnExactEncode: laid · FnExactInstrOK: laid · FnExactInstrText: laid · FnExactReadInstr: laid · FnExactTimeOf: laid.
  DERIVED. THE GIVEN ROWS OF THIS SEAT. 6 by the template 'for every input the law returns true; each argument reads behind the call as it read before'; 0 by the template 'total and deterministic' (their statements: YtdejmbchaghchamDoorTotals.lean).
  GIVEN WITH THE SEED: the statements are not yours to turn. If you find one false, say at which input.
  Laid BY PROGRAM, IN A SANDBOX (cutbox-rows.mjs): the forced cells as the released guide's own fill.sh prints them over the translation 39aad57a9ddc3491… (all of the seat's roots in one cut). By AI agents, Wed Nov 11 2026. No macro, syntax, notation, axiom, sorry.
-/
import Derived.Test.YtdejmbchaghchamDoorChecked
import GoSem.Claim
import GoSem.ClaimJoined
import GoSem.ClaimMapViews
import Derived.JoinedTies
import Derived.KernelRfl
namespace Go.Proofs.YtdejmbchaghchamDoor
/- THE CELL 'sum', in the pinned program and in every row, IS THE sha256 OF THE DUMP (.gsa) THAT YtdejmbchaghchamDoorProg.lean LOADS. Nothing in Lean hashes anything: it is a label: what it is worth is what the hold of that sum in a sandbox is worth. -/
noncomputable def Tryd.pinned : Pinned := { name := "ytdejmbchaghchamdoor", sum := "39aad57a9ddc3491369d5d23962ee2957f5aeb2f7aacada7cf381c84ad18c1ee", checked := Tryd.checked }
namespace Rows
def none {H : Type} : Left H := { results := [], args := [] }

/- WHAT THE LISTED PACKAGE-LEVEL VARIABLES READ AS WHEN THE CALL BEGINS. Each datum BY PROGRAM (the guide's laid-datum.mjs) off the statement by which the dump's own 'gosem.cut.vars' lays the variable. In a bare row this is a premise. The card (YtdejmbchaghchamDoorCards.lean) ties it to the program's text. -/
def laid_loop_example_g00644_impl_instrKinds {H : Type} : DataW H := .agg [.agg [.lit (.string [110, 111, 112]), .lit (.int .i64 0), .lit (.int .i64 0), .lit (.int .i64 0), .lit (.int .i64 0)], .agg [.lit (.string [108, 100]), .lit (.int .i64 3), .lit (.int .i64 1), .lit (.int .i64 1), .lit (.int .i64 0)], .agg [.lit (.string [108, 100, 110]), .lit (.int .i64 5), .lit (.int .i64 1), .lit (.int .i64 0), .lit (.int .i64 0)], .agg [.lit (.string [108, 100, 97]), .lit (.int .i64 4), .lit (.int .i64 0), .lit (.int .i64 0), .lit (.int .i64 3)], .agg [.lit (.string [115, 116, 97]), .lit (.int .i64 4), .lit (.int .i64 0), .lit (.int .i64 0), .lit (.int .i64 3)], .agg [.lit (.string [97, 108, 117]), .lit (.int .i64 3), .lit (.int .i64 0), .lit (.int .i64 1), .lit (.int .i64 0)], .agg [.lit (.string [97, 108, 117, 110]), .lit (.int .i64 5), .lit (.int .i64 0), .lit (.int .i64 0), .lit (.int .i64 0)], .agg [.lit (.string [105, 110, 99]), .lit (.int .i64 1), .lit (.int .i64 2), .lit (.int .i64 0), .lit (.int .i64 0)], .agg [.lit (.string [100, 101, 99]), .lit (.int .i64 1), .lit (.int .i64 2), .lit (.int .i64 0), .lit (.int .i64 0)], .agg [.lit (.string [116, 117, 114, 110]), .lit (.int .i64 3), .lit (.int .i64 0), .lit (.int .i64 2), .lit (.int .i64 0)], .agg [.lit (.string [98, 105, 116]), .lit (.int .i64 3), .lit (.int .i64 0), .lit (.int .i64 1), .lit (.int .i64 0)], .agg [.lit (.string [100, 97, 97]), .lit (.int .i64 0), .lit (.int .i64 0), .lit (.int .i64 0), .lit (.int .i64 0)], .agg [.lit (.string [106, 112]), .lit (.int .i64 5), .lit (.int .i64 0), .lit (.int .i64 0), .lit (.int .i64 0)], .agg [.lit (.string [99, 97, 108, 108]), .lit (.int .i64 5), .lit (.int .i64 0), .lit (.int .i64 0), .lit (.int .i64 0)], .agg [.lit (.string [114, 101, 116]), .lit (.int .i64 1), .lit (.int .i64 0), .lit (.int .i64 0), .lit (.int .i64 0)], .agg [.lit (.string [112, 117, 115, 104]), .lit (.int .i64 1), .lit (.int .i64 0), .lit (.int .i64 0), .lit (.int .i64 3)], .agg [.lit (.string [112, 111, 112]), .lit (.int .i64 1), .lit (.int .i64 0), .lit (.int .i64 0), .lit (.int .i64 3)], .agg [.lit (.string [105, 110]), .lit (.int .i64 4), .lit (.int .i64 0), .lit (.int .i64 0), .lit (.int .i64 4)], .agg [.lit (.string [111, 117, 116]), .lit (.int .i64 4), .lit (.int .i64 0), .lit (.int .i64 0), .lit (.int .i64 4)], .agg [.lit (.string [104, 97, 108, 116]), .lit (.int .i64 0), .lit (.int .i64 0), .lit (.int .i64 0), .lit (.int .i64 0)], .agg [.lit (.string [101, 105]), .lit (.int .i64 0), .lit (.int .i64 0), .lit (.int .i64 0), .lit (.int .i64 0)], .agg [.lit (.string [100, 105]), .lit (.int .i64 0), .lit (.int .i64 0), .lit (.int .i64 0), .lit (.int .i64 0)], .agg [.lit (.string [108, 100, 105]), .lit (.int .i64 0), .lit (.int .i64 0), .lit (.int .i64 0), .lit (.int .i64 6)], .agg [.lit (.string [100, 98]), .lit (.int .i64 8), .lit (.int .i64 0), .lit (.int .i64 0), .lit (.int .i64 0)]]
def laid_math_bits_deBruijn32tab {H : Type} : DataW H := .agg [.lit (.int .u8 0), .lit (.int .u8 1), .lit (.int .u8 28), .lit (.int .u8 2), .lit (.int .u8 29), .lit (.int .u8 14), .lit (.int .u8 24), .lit (.int .u8 3), .lit (.int .u8 30), .lit (.int .u8 22), .lit (.int .u8 20), .lit (.int .u8 15), .lit (.int .u8 25), .lit (.int .u8 17), .lit (.int .u8 4), .lit (.int .u8 8), .lit (.int .u8 31), .lit (.int .u8 27), .lit (.int .u8 13), .lit (.int .u8 23), .lit (.int .u8 21), .lit (.int .u8 19), .lit (.int .u8 16), .lit (.int .u8 7), .lit (.int .u8 26), .lit (.int .u8 12), .lit (.int .u8 18), .lit (.int .u8 6), .lit (.int .u8 11), .lit (.int .u8 5), .lit (.int .u8 10), .lit (.int .u8 9)]
def laid_math_bits_deBruijn64tab {H : Type} : DataW H := .agg [.lit (.int .u8 0), .lit (.int .u8 1), .lit (.int .u8 56), .lit (.int .u8 2), .lit (.int .u8 57), .lit (.int .u8 49), .lit (.int .u8 28), .lit (.int .u8 3), .lit (.int .u8 61), .lit (.int .u8 58), .lit (.int .u8 42), .lit (.int .u8 50), .lit (.int .u8 38), .lit (.int .u8 29), .lit (.int .u8 17), .lit (.int .u8 4), .lit (.int .u8 62), .lit (.int .u8 47), .lit (.int .u8 59), .lit (.int .u8 36), .lit (.int .u8 45), .lit (.int .u8 43), .lit (.int .u8 51), .lit (.int .u8 22), .lit (.int .u8 53), .lit (.int .u8 39), .lit (.int .u8 33), .lit (.int .u8 30), .lit (.int .u8 24), .lit (.int .u8 18), .lit (.int .u8 12), .lit (.int .u8 5), .lit (.int .u8 63), .lit (.int .u8 55), .lit (.int .u8 48), .lit (.int .u8 27), .lit (.int .u8 60), .lit (.int .u8 41), .lit (.int .u8 37), .lit (.int .u8 16), .lit (.int .u8 46), .lit (.int .u8 35), .lit (.int .u8 44), .lit (.int .u8 21), .lit (.int .u8 52), .lit (.int .u8 32), .lit (.int .u8 23), .lit (.int .u8 11), .lit (.int .u8 54), .lit (.int .u8 26), .lit (.int .u8 40), .lit (.int .u8 15), .lit (.int .u8 34), .lit (.int .u8 20), .lit (.int .u8 31), .lit (.int .u8 10), .lit (.int .u8 25), .lit (.int .u8 14), .lit (.int .u8 19), .lit (.int .u8 9), .lit (.int .u8 13), .lit (.int .u8 8), .lit (.int .u8 7), .lit (.int .u8 6)]
def laid_internal_strconv_uint64pow10 {H : Type} : DataW H := .agg [.lit (.int .u64 1), .lit (.int .u64 10), .lit (.int .u64 100), .lit (.int .u64 1000), .lit (.int .u64 10000), .lit (.int .u64 100000), .lit (.int .u64 1000000), .lit (.int .u64 10000000), .lit (.int .u64 100000000), .lit (.int .u64 1000000000), .lit (.int .u64 10000000000), .lit (.int .u64 100000000000), .lit (.int .u64 1000000000000), .lit (.int .u64 10000000000000), .lit (.int .u64 100000000000000), .lit (.int .u64 1000000000000000), .lit (.int .u64 10000000000000000), .lit (.int .u64 100000000000000000), .lit (.int .u64 1000000000000000000), .lit (.int .u64 10000000000000000000)]

/-- 'laws.FnExactDecode': WHATEVER THE INPUT: true; the input reads as it did. -/
def fnExactDecodeSpec : ChangeSpec := { name := "fnExactDecode", vars := ["loop.example/g00644/impl.instrKinds"], fn := fun _ => fun
  | [d, g1] => { results := [.lit (.bool true)], args := [d], vars := [g1] }
  | _ => none }
def fnExactDecodeRow : OpenClaim := { program := "ytdejmbchaghchamdoor", sum := "39aad57a9ddc3491369d5d23962ee2957f5aeb2f7aacada7cf381c84ad18c1ee", func := "loop.example/g00644/laws.FnExactDecode", spec := "fnExactDecode", named := ["loop.example/g00644/impl.instrKinds"], apart := false, laid := [("loop.example/g00644/impl.instrKinds", laid_loop_example_g00644_impl_instrKinds)] }
def FnExactDecodeSaid : Prop := fnExactDecodeRow.holds Tryd.pinned (OpenSpec.ofChange fnExactDecodeSpec)

/-- ITS FALSE NEIGHBOUR: 'it returns false'. Refute it at one input. -/
def fnExactDecodeWrong : ChangeSpec := { name := "fnExactDecode", vars := ["loop.example/g00644/impl.instrKinds"], fn := fun _ => fun
  | [d, g1] => { results := [.lit (.bool false)], args := [d], vars := [g1] }
  | _ => none }
def FnExactDecodeWrongFalsely : Prop := fnExactDecodeRow.holds Tryd.pinned (OpenSpec.ofChange fnExactDecodeWrong)

/-- 'laws.FnExactEncode': WHATEVER THE INPUT: true; the input reads as it did. -/
def fnExactEncodeSpec : ChangeSpec := { name := "fnExactEncode", vars := ["loop.example/g00644/impl.instrKinds"], fn := fun _ => fun
  | [d, g1] => { results := [.lit (.bool true)], args := [d], vars := [g1] }
  | _ => none }
def fnExactEncodeRow : OpenClaim := { program := "ytdejmbchaghchamdoor", sum := "39aad57a9ddc3491369d5d23962ee2957f5aeb2f7aacada7cf381c84ad18c1ee", func := "loop.example/g00644/laws.FnExactEncode", spec := "fnExactEncode", named := ["loop.example/g00644/impl.instrKinds"], apart := false, laid := [("loop.example/g00644/impl.instrKinds", laid_loop_example_g00644_impl_instrKinds)] }
def FnExactEncodeSaid : Prop := fnExactEncodeRow.holds Tryd.pinned (OpenSpec.ofChange fnExactEncodeSpec)

/-- ITS FALSE NEIGHBOUR: 'it returns false'. Refute it at one input. -/
def fnExactEncodeWrong : ChangeSpec := { name := "fnExactEncode", vars := ["loop.example/g00644/impl.instrKinds"], fn := fun _ => fun
  | [d, g1] => { results := [.lit (.bool false)], args := [d], vars := [g1] }
  | _ => none }
def FnExactEncodeWrongFalsely : Prop := fnExactEncodeRow.holds Tryd.pinned (OpenSpec.ofChange fnExactEncodeWrong)

/-- 'laws.FnExactInstrOK': WHATEVER THE INPUT: true; the input reads as it did. -/
def fnExactInstrOKSpec : ChangeSpec := { name := "fnExactInstrOK", vars := ["loop.example/g00644/impl.instrKinds"], fn := fun _ => fun
  | [d, g1] => { results := [.lit (.bool true)], args := [d], vars := [g1] }
  | _ => none }
def fnExactInstrOKRow : OpenClaim := { program := "ytdejmbchaghchamdoor", sum := "39aad57a9ddc3491369d5d23962ee2957f5aeb2f7aacada7cf381c84ad18c1ee", func := "loop.example/g00644/laws.FnExactInstrOK", spec := "fnExactInstrOK", named := ["loop.example/g00644/impl.instrKinds"], apart := false, laid := [("loop.example/g00644/impl.instrKinds", laid_loop_example_g00644_impl_instrKinds)] }
def FnExactInstrOKSaid : Prop := fnExactInstrOKRow.holds Tryd.pinned (OpenSpec.ofChange fnExactInstrOKSpec)

/-- ITS FALSE NEIGHBOUR: 'it returns false'. Refute it at one input. -/
def fnExactInstrOKWrong : ChangeSpec := { name := "fnExactInstrOK", vars := ["loop.example/g00644/impl.instrKinds"], fn := fun _ => fun
  | [d, g1] => { results := [.lit (.bool false)], args := [d], vars := [g1] }
  | _ => none }
def FnExactInstrOKWrongFalsely : Prop := fnExactInstrOKRow.holds Tryd.pinned (OpenSpec.ofChange fnExactInstrOKWrong)

/-- 'laws.FnExactInstrText': WHATEVER THE INPUT: true; the input reads as it did. -/
def fnExactInstrTextSpec : ChangeSpec := { name := "fnExactInstrText", vars := ["loop.example/g00644/impl.instrKinds"], fn := fun _ => fun
  | [d, g1] => { results := [.lit (.bool true)], args := [d], vars := [g1] }
  | _ => none }
def fnExactInstrTextRow : OpenClaim := { program := "ytdejmbchaghchamdoor", sum := "39aad57a9ddc3491369d5d23962ee2957f5aeb2f7aacada7cf381c84ad18c1ee", func := "loop.example/g00644/laws.FnExactInstrText", spec := "fnExactInstrText", inPlace := ["internal/abi.NoEscape", "internal/bytealg.MakeNoZero"], recurses := true, named := ["loop.example/g00644/impl.instrKinds", "internal/strconv.uint64pow10", "math/bits.deBruijn32tab", "math/bits.deBruijn64tab"], apart := false, laid := [("math/bits.deBruijn32tab", laid_math_bits_deBruijn32tab), ("math/bits.deBruijn64tab", laid_math_bits_deBruijn64tab), ("internal/strconv.uint64pow10", laid_internal_strconv_uint64pow10), ("loop.example/g00644/impl.instrKinds", laid_loop_example_g00644_impl_instrKinds)] }
def FnExactInstrTextSaid : Prop := fnExactInstrTextRow.holds Tryd.pinned (OpenSpec.ofChange fnExactInstrTextSpec)

/-- ITS FALSE NEIGHBOUR: 'it returns false'. Refute it at one input. -/
def fnExactInstrTextWrong : ChangeSpec := { name := "fnExactInstrText", vars := ["loop.example/g00644/impl.instrKinds"], fn := fun _ => fun
  | [d, g1] => { results := [.lit (.bool false)], args := [d], vars := [g1] }
  | _ => none }
def FnExactInstrTextWrongFalsely : Prop := fnExactInstrTextRow.holds Tryd.pinned (OpenSpec.ofChange fnExactInstrTextWrong)

/-- 'laws.FnExactReadInstr': WHATEVER THE INPUT: true; the input reads as it did. -/
def fnExactReadInstrSpec : ChangeSpec := { name := "fnExactReadInstr", vars := ["loop.example/g00644/impl.instrKinds"], fn := fun _ => fun
  | [d, g1] => { results := [.lit (.bool true)], args := [d], vars := [g1] }
  | _ => none }
def fnExactReadInstrRow : OpenClaim := { program := "ytdejmbchaghchamdoor", sum := "39aad57a9ddc3491369d5d23962ee2957f5aeb2f7aacada7cf381c84ad18c1ee", func := "loop.example/g00644/laws.FnExactReadInstr", spec := "fnExactReadInstr", unfollowed := true, recurses := true, named := ["loop.example/g00644/impl.instrKinds"], apart := false, laid := [("loop.example/g00644/impl.instrKinds", laid_loop_example_g00644_impl_instrKinds)] }
def FnExactReadInstrSaid : Prop := fnExactReadInstrRow.holds Tryd.pinned (OpenSpec.ofChange fnExactReadInstrSpec)

/-- ITS FALSE NEIGHBOUR: 'it returns false'. Refute it at one input. -/
def fnExactReadInstrWrong : ChangeSpec := { name := "fnExactReadInstr", vars := ["loop.example/g00644/impl.instrKinds"], fn := fun _ => fun
  | [d, g1] => { results := [.lit (.bool false)], args := [d], vars := [g1] }
  | _ => none }
def FnExactReadInstrWrongFalsely : Prop := fnExactReadInstrRow.holds Tryd.pinned (OpenSpec.ofChange fnExactReadInstrWrong)

/-- 'laws.FnExactTimeOf': WHATEVER THE INPUT: true; the input reads as it did. -/
def fnExactTimeOfSpec : ChangeSpec := { name := "fnExactTimeOf", vars := ["loop.example/g00644/impl.instrKinds"], fn := fun _ => fun
  | [d, g1] => { results := [.lit (.bool true)], args := [d], vars := [g1] }
  | _ => none }
def fnExactTimeOfRow : OpenClaim := { program := "ytdejmbchaghchamdoor", sum := "39aad57a9ddc3491369d5d23962ee2957f5aeb2f7aacada7cf381c84ad18c1ee", func := "loop.example/g00644/laws.FnExactTimeOf", spec := "fnExactTimeOf", named := ["loop.example/g00644/impl.instrKinds"], apart := false, laid := [("loop.example/g00644/impl.instrKinds", laid_loop_example_g00644_impl_instrKinds)] }
def FnExactTimeOfSaid : Prop := fnExactTimeOfRow.holds Tryd.pinned (OpenSpec.ofChange fnExactTimeOfSpec)

/-- ITS FALSE NEIGHBOUR: 'it returns false'. Refute it at one input. -/
def fnExactTimeOfWrong : ChangeSpec := { name := "fnExactTimeOf", vars := ["loop.example/g00644/impl.instrKinds"], fn := fun _ => fun
  | [d, g1] => { results := [.lit (.bool false)], args := [d], vars := [g1] }
  | _ => none }
def FnExactTimeOfWrongFalsely : Prop := fnExactTimeOfRow.holds Tryd.pinned (OpenSpec.ofChange fnExactTimeOfWrong)

/- THE SECOND FORM. 'bulk': how many values and letters a reading holds, each counted each time it is reached (what is shared counts as often as it is met; a slice's spare places count too). A statement '..UptoSaid' is the law's where the arguments, and the package variables that the reading takes, are together of bulk at most 1048576: NARROWER than '..Said'. Prove '..Said' where nothing that the law and all that it calls make is longer than what came in: it says more and counts as full. Else prove '..UptoSaid'. A law counts once. -/
mutual
def uptoBulk {H : Type} : DataW H → Nat
  | .lit (.string bytes) => bytes.length + 1
  | .lit _ => 1
  | .nil => 1
  | .ptr d => uptoBulk d + 1
  | .slice elems spare => uptoBulkAll elems + uptoBulkAll spare + 1
  | .agg parts => uptoBulkAll parts + 1
  | .iface _ d => uptoBulk d + 1
  | .map entries => uptoBulkEntries entries + 1
  | .held _ => 1
def uptoBulkAll {H : Type} : List (DataW H) → Nat
  | [] => 0
  | d :: r => uptoBulk d + uptoBulkAll r
def uptoBulkEntries {H : Type} : List (Lit × DataW H) → Nat
  | [] => 0
  | x :: r => uptoBulkEntry x + uptoBulkEntries r
def uptoBulkEntry {H : Type} : Lit × DataW H → Nat
  | (.string bytes, d) => bytes.length + uptoBulk d + 1
  | (_, d) => uptoBulk d + 1
 end
def uptoSmall : (H : Type) → List (DataW H) → Bool := fun _ ds => decide (uptoBulkAll ds ≤ 1048576)
def OpenSpec.upto (s : _root_.Go.ChangeSpec) : _root_.Go.OpenSpec := { _root_.Go.OpenSpec.ofChange s with cond := some uptoSmall }

/-- 'laws.FnExactDecode', WHERE WHAT IT READS IS OF BULK AT MOST 1048576: true; the input reads as it did. -/
def fnExactDecodeUptoRow : OpenClaim := { program := "ytdejmbchaghchamdoor", sum := "39aad57a9ddc3491369d5d23962ee2957f5aeb2f7aacada7cf381c84ad18c1ee", func := "loop.example/g00644/laws.FnExactDecode", spec := "fnExactDecode", named := ["loop.example/g00644/impl.instrKinds"], apart := false, laid := [("loop.example/g00644/impl.instrKinds", laid_loop_example_g00644_impl_instrKinds)], narrowed := true }
def FnExactDecodeUptoSaid : Prop := fnExactDecodeUptoRow.holds Tryd.pinned (OpenSpec.upto fnExactDecodeSpec)

/-- 'laws.FnExactEncode', WHERE WHAT IT READS IS OF BULK AT MOST 1048576: true; the input reads as it did. -/
def fnExactEncodeUptoRow : OpenClaim := { program := "ytdejmbchaghchamdoor", sum := "39aad57a9ddc3491369d5d23962ee2957f5aeb2f7aacada7cf381c84ad18c1ee", func := "loop.example/g00644/laws.FnExactEncode", spec := "fnExactEncode", named := ["loop.example/g00644/impl.instrKinds"], apart := false, laid := [("loop.example/g00644/impl.instrKinds", laid_loop_example_g00644_impl_instrKinds)], narrowed := true }
def FnExactEncodeUptoSaid : Prop := fnExactEncodeUptoRow.holds Tryd.pinned (OpenSpec.upto fnExactEncodeSpec)

/-- 'laws.FnExactInstrOK', WHERE WHAT IT READS IS OF BULK AT MOST 1048576: true; the input reads as it did. -/
def fnExactInstrOKUptoRow : OpenClaim := { program := "ytdejmbchaghchamdoor", sum := "39aad57a9ddc3491369d5d23962ee2957f5aeb2f7aacada7cf381c84ad18c1ee", func := "loop.example/g00644/laws.FnExactInstrOK", spec := "fnExactInstrOK", named := ["loop.example/g00644/impl.instrKinds"], apart := false, laid := [("loop.example/g00644/impl.instrKinds", laid_loop_example_g00644_impl_instrKinds)], narrowed := true }
def FnExactInstrOKUptoSaid : Prop := fnExactInstrOKUptoRow.holds Tryd.pinned (OpenSpec.upto fnExactInstrOKSpec)

/-- 'laws.FnExactInstrText', WHERE WHAT IT READS IS OF BULK AT MOST 1048576: true; the input reads as it did. -/
def fnExactInstrTextUptoRow : OpenClaim := { program := "ytdejmbchaghchamdoor", sum := "39aad57a9ddc3491369d5d23962ee2957f5aeb2f7aacada7cf381c84ad18c1ee", func := "loop.example/g00644/laws.FnExactInstrText", spec := "fnExactInstrText", inPlace := ["internal/abi.NoEscape", "internal/bytealg.MakeNoZero"], recurses := true, named := ["loop.example/g00644/impl.instrKinds", "internal/strconv.uint64pow10", "math/bits.deBruijn32tab", "math/bits.deBruijn64tab"], apart := false, laid := [("math/bits.deBruijn32tab", laid_math_bits_deBruijn32tab), ("math/bits.deBruijn64tab", laid_math_bits_deBruijn64tab), ("internal/strconv.uint64pow10", laid_internal_strconv_uint64pow10), ("loop.example/g00644/impl.instrKinds", laid_loop_example_g00644_impl_instrKinds)], narrowed := true }
def FnExactInstrTextUptoSaid : Prop := fnExactInstrTextUptoRow.holds Tryd.pinned (OpenSpec.upto fnExactInstrTextSpec)

/-- 'laws.FnExactReadInstr', WHERE WHAT IT READS IS OF BULK AT MOST 1048576: true; the input reads as it did. -/
def fnExactReadInstrUptoRow : OpenClaim := { program := "ytdejmbchaghchamdoor", sum := "39aad57a9ddc3491369d5d23962ee2957f5aeb2f7aacada7cf381c84ad18c1ee", func := "loop.example/g00644/laws.FnExactReadInstr", spec := "fnExactReadInstr", unfollowed := true, recurses := true, named := ["loop.example/g00644/impl.instrKinds"], apart := false, laid := [("loop.example/g00644/impl.instrKinds", laid_loop_example_g00644_impl_instrKinds)], narrowed := true }
def FnExactReadInstrUptoSaid : Prop := fnExactReadInstrUptoRow.holds Tryd.pinned (OpenSpec.upto fnExactReadInstrSpec)

/-- 'laws.FnExactTimeOf', WHERE WHAT IT READS IS OF BULK AT MOST 1048576: true; the input reads as it did. -/
def fnExactTimeOfUptoRow : OpenClaim := { program := "ytdejmbchaghchamdoor", sum := "39aad57a9ddc3491369d5d23962ee2957f5aeb2f7aacada7cf381c84ad18c1ee", func := "loop.example/g00644/laws.FnExactTimeOf", spec := "fnExactTimeOf", named := ["loop.example/g00644/impl.instrKinds"], apart := false, laid := [("loop.example/g00644/impl.instrKinds", laid_loop_example_g00644_impl_instrKinds)], narrowed := true }
def FnExactTimeOfUptoSaid : Prop := fnExactTimeOfUptoRow.holds Tryd.pinned (OpenSpec.upto fnExactTimeOfSpec)

end Rows
end Go.Proofs.YtdejmbchaghchamDoor
