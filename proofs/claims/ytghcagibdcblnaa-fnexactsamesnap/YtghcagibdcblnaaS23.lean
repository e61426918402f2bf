/- What impl.XorOf and spec.XorOf answer: the exclusive or of the bytes one by one, in every world, which stays as it was. -/
import Derived.Test.YtghcagibdcblnaaS00
import Derived.Test.YtghcagibdcblnaaS04
import Derived.Test.YtghcagibdcblnaaMfs
import Derived.Test.YtghcagibdcblnaaS09
import Derived.BigQuiet
import Derived.Laws.BytesArg
import Derived.Deep.DeepCutAuto
import Derived.Deep.RegionWith
import Derived.WalkKit
import Derived.ProofKit
import Derived.Test.YtghcagibdcblnaaS14
namespace Go.Proofs.Ytghcagibdcblnaa
open Go.ChangeShapes Go.WideShapes Go.ChangeAt Go.RowKit
set_option linter.unusedVariables false

def xorN (s : ByteArray) : Nat → Int
  | 0 => 0
  | k + 1 => bits .xor .i64 (xorN s k) (byt s k)

def xorV (s : ByteArray) : Int := if 65536 < s.size then 0 else xorN s s.size

end Go.Proofs.Ytghcagibdcblnaa

/- Blocks of a tape as plain numbers; what the specification says of a right one, and its sum. -/
namespace Go.Proofs.Ytghcagibdcblnaa
open Go.ChangeShapes Go.WideShapes Go.ChangeAt Go.RowKit
set_option linter.unusedVariables false
set_option linter.unusedSimpArgs false

abbrev eS : ByteArray := ⟨#[]⟩
abbrev bkA (f : Int) (s : ByteArray) : Array Value := #[.int .i64 f, .string s]
abbrev bkV (f : Int) (s : ByteArray) : Value := .agg (bkA f s)
def okB (f : Int) (s : ByteArray) : Bool := inB f 0 255 && decide (s.size ≤ 40)
def sumB (f : Int) (s : ByteArray) : Int := bits .xor .i64 f (xorN s s.size)
def sumB2 (f : Int) (s : ByteArray) : Int × Int := if okB f s = true then (sumB f s, 0) else (0, 1)
theorem okB_iff (f : Int) (s : ByteArray) : okB f s = true ↔ (0 ≤ f ∧ f ≤ 255) ∧ s.size ≤ 40 := by
  unfold okB inB
  simp only [Bool.and_eq_true, decide_eq_true_eq]
theorem xorN_nat (s : ByteArray) (k : Nat) : ∃ n : Nat, xorN s k = n ∧ n < 256 := by
  induction k with
  | zero => exact ⟨0, rfl, by omega⟩
  | succ k ih =>
    obtain ⟨n, hn, hl⟩ := ih
    have hb := byt_bd s k
    obtain ⟨x, hx⟩ : ∃ x : Nat, byt s k = x := ⟨(byt s k).toNat, by omega⟩
    refine ⟨Nat.xor n x, ?_, Nat.xor_lt_two_pow (n := 8) (by omega) (by omega)⟩
    show bits .xor .i64 (xorN s k) (byt s k) = _
    rw [hn, hx]
    exact bXor n x (by omega) (by omega)
theorem sumB_nat (f : Nat) (s : ByteArray) (hf : f < 256) : ∃ n : Nat, sumB (f : Int) s = n ∧ n < 256 := by
  obtain ⟨n, hn, hl⟩ := xorN_nat s s.size
  refine ⟨Nat.xor f n, ?_, Nat.xor_lt_two_pow (n := 8) (by omega) (by omega)⟩
  unfold sumB
  rw [hn]
  exact bXor f n (by omega) (by omega)
def bytB (f : Int) (s : ByteArray) : ByteArray := strOfNums [f] ++ s ++ strOfNums [sumB f s]
def txtB (f : Int) (s : ByteArray) : ByteArray := strOfNums [((s.size + 2 : Nat) : Int) % 256, ((s.size + 2 : Nat) : Int) / 256] ++ bytB f s
theorem bytB_size (f : Int) (s : ByteArray) : (bytB f s).size = s.size + 2 := by
  unfold bytB
  rw [ByteArray.size_append, ByteArray.size_append, strOfNums_size, strOfNums_size]
  show 1 + s.size + 1 = _
  omega
theorem txtB_size (f : Int) (s : ByteArray) : (txtB f s).size = s.size + 4 := by
  unfold txtB
  rw [ByteArray.size_append, bytB_size, strOfNums_size]
  show 2 + (s.size + 2) = _
  omega
end Go.Proofs.Ytghcagibdcblnaa

/- What impl.PutWord and spec.PutWord answer: the text with the word's two bytes behind it, or the codes; new blocks at most. -/
namespace Go.Proofs.Ytghcagibdcblnaa
open Go.ChangeShapes Go.WideShapes Go.ChangeAt Go.RowKit
set_option linter.unusedVariables false

theorem conv2 (w : World) (x y : Int) : (convert 70 9 (.slice (some ⟨w.heap.size, 0, none⟩) 2 2)).run Try.prog (w.alloc (.cells #[.int .u8 x, .int .u8 y] 5)) = .ok (.string (strOfNums [x, y])) (w.alloc (.cells #[.int .u8 x, .int .u8 y] 5)) :=
  run_convert_bytes_arg _ 70 5 Try.underlying70 Try.underlying5 w.heap.size 0 2 2 [x, y] rfl (fun i hi => by
    match i, hi with
    | 0, _ => simp
    | 1, _ => simp) 9 Try.underlying9

def putV (s : ByteArray) (v : Int) : Value :=
  if 65536 < s.size then .tuple #[.string ByteArray.empty, .int .i64 2]
  else if v < 0 ∨ 65535 < v then .tuple #[.string ByteArray.empty, .int .i64 4]
  else if 65534 < s.size then .tuple #[.string ByteArray.empty, .int .i64 7]
  else .tuple #[.string (s ++ strOfNums [v % 256, v / 256]), .int .i64 0]

theorem putV_form (s : ByteArray) (v : Int) : ∃ S C, putV s v = .tuple #[.string S, .int .i64 C] := by
  unfold putV
  repeat' split
  all_goals exact ⟨_, _, rfl⟩

theorem put_impl (s : ByteArray) (v : Int) (w : World) (hs : s.size ≤ maxLen) :
    Calls Try.prog 62 #[.string s, .int .i64 v] w fun e w' => e = .returned (putV s v) ∧ Below w.heap.size w w' := by
  unfold maxLen at hs
  unfold putV
  obtain ⟨q, hq⟩ : ∃ q : Int, (s.size : Int) + 2 = q := ⟨_, rfl⟩
  have hc := conv2
  by_cases h1 : 65536 < s.size
  · rw [if_pos h1]
    go_enter Try.func62, Try.ntmps62
    go_wp2
    go_ret2
    exact ⟨rfl, Below.refl _ _⟩
  · rw [if_neg h1]
    by_cases h2 : v < 0 ∨ 65535 < v
    · rw [if_pos h2]
      rcases h2 with h2 | h2
      · go_enter Try.func62, Try.ntmps62
        go_wp2
        go_ret2
        exact ⟨rfl, Below.refl _ _⟩
      · have h3 : ¬ v < 0 := by omega
        go_enter Try.func62, Try.ntmps62
        go_wp2
        go_ret2
        exact ⟨rfl, Below.refl _ _⟩
    · rw [if_neg h2]
      have h3 : 0 ≤ v := by omega
      have h4 : v ≤ 65535 := by omega
      by_cases h5 : 65534 < s.size
      · rw [if_pos h5]
        have h6 : 65536 < q := by omega
        go_enter Try.func62, Try.ntmps62
        go_wp2
        go_ret2
        exact ⟨rfl, Below.refl _ _⟩
      · rw [if_neg h5]
        have h6 : q ≤ 65536 := by omega
        have h7 : (strOfNums [v % 256, v / 256]).size = 2 := strOfNums_size _
        go_enter Try.func62, Try.ntmps62
        go_wp2
        go_ret2
        exact ⟨rfl, (Below.refl _ _).alloc (Nat.le_refl _) _⟩

end Go.Proofs.Ytghcagibdcblnaa

/- The bytes of a block, and its text: the specification. -/
namespace Go.Proofs.Ytghcagibdcblnaa
open Go.ChangeShapes Go.WideShapes Go.ChangeAt Go.RowKit
set_option linter.unusedVariables false
set_option linter.unusedSimpArgs false

theorem conv1 {W : World} {g : Nat} {x : Int} (h : Blk W g #[.int .u8 x]) : (convert 70 9 (.slice (some ⟨g, 0, none⟩) 1 1)).run Try.prog W = .ok (.string (strOfNums [x])) W :=
  run_convert_bytes_arg _ 70 5 Try.underlying70 Try.underlying5 g 0 1 1 [x] rfl (fun i hi => by
    match i, hi with
    | 0, _ => exact h.cell 0) 9 Try.underlying9
theorem wordU_spec (v : Int) (w : World) (h0 : 0 ≤ v) (h1 : v ≤ 65535) :
    Calls Try.prog 44 #[.int .i64 v] w fun e w' => e = .returned (.string (strOfNums [v % 256, v / 256])) ∧ Below w.heap.size w w' := by
  have hc := conv2
  go_enter Try.func44, Try.ntmps44
  go_wp2
  go_ret
  exact ⟨rfl, (Below.refl _ _).alloc (Nat.le_refl _) _⟩
def txtB2 (f : Int) (s : ByteArray) : ByteArray × Int := if okB f s = true then (txtB f s, 0) else (ByteArray.empty, 1)
end Go.Proofs.Ytghcagibdcblnaa
