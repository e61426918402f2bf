/- A byte out of its bits, and the length of a tape: the specification and the program. -/
import Derived.Test.YtohnddjijedfkaaVak
import Derived.Test.YtohnddjijedfkaaK02
import Derived.Test.YtohnddjijedfkaaBasek
import Derived.WalkKit
import Derived.ProofKit
import Derived.Lib.Tables
import Derived.Laws.BitsAllLaws
namespace Go.Proofs.Ytohnddjijedfkaa
open Go.ChangeShapes Go.WideShapes Go.ChangeAt Go.RowKit
set_option linter.unusedVariables false
set_option linter.unusedSimpArgs false

theorem RowR.at {w : World} {a : Option Addr} {cap : Nat} {P : List Int} (h : RowR w (.slice a P.length cap) P) {k : Nat} (hk : k < P.length) : ∃ b off, a = some ⟨b, off, none⟩ ∧ w.cell? ⟨b, off + k, none⟩ = some (.int .i64 (P.getD k 0)) := by
  obtain ⟨a', cap', e, h⟩ := h
  cases e
  rcases h with rfl | ⟨b, off, rfl, h⟩
  · exact absurd hk (by simp)
  · exact ⟨b, off, rfl, h k hk⟩
theorem withinV_impl (n a b : Int) (w : World) : Calls Try.prog 26 #[.int .i64 n, .int .i64 a, .int .i64 b] w fun e w' => e = .returned (.bool (inB n a b)) ∧ w' = w := by
  go_enter Try.func26, Try.ntmps26
  go_wp2
  all_goals go_ret
  all_goals exact ⟨ret_bool (by rw [Bool.eq_iff_iff]; simp [inB]; try omega), rfl⟩
end Go.Proofs.Ytohnddjijedfkaa

/- What impl.Parity and spec.Parity answer, and the functions that they call: both are the one test parB, in every world, which stays as it was. -/
namespace Go.Proofs.Ytohnddjijedfkaa
open Go.ChangeShapes Go.WideShapes Go.ChangeAt Go.RowKit
set_option linter.unusedVariables false

def prf : Nat → Nat → Bool
  | 0, _ => false
  | f + 1, n => (n % 2 == 1) != prf f (n / 2)
theorem prf_zero (f : Nat) : prf f 0 = false := by
  induction f with
  | zero => rfl
  | succ f ih => simp [prf, ih]
theorem i64_and1 (n : Nat) (h : n < 256) : bits .and .i64 (n : Int) 1 = ((n % 2 : Nat) : Int) := by
  show IntKind.i64.wrap ((BitVec.ofInt 64 (n : Int) &&& BitVec.ofInt 64 1).toNat : Nat) = _
  have h1 : (BitVec.ofInt 64 1).toNat = 1 := by decide
  rw [BitVec.toNat_and, BitVec.toNat_ofInt, h1, Nat.and_one_is_mod, IntKind.wrap_i64]
  omega
theorem pop8_par : ∀ v : Fin 256, (Lib.pop8 (v.val : Int) % 2 == 0) = !prf 8 v.val := by decide +kernel

theorem round_par {e : Bool} {f n : Nat} (h : 0 < n) (hn : n < 2 ^ f) (hn2 : n < 256) {B : Bool} (H : (e != prf f n) = B) :
    ∃ (f' n' : Nat) (e' : Bool), n' < 2 ^ f' ∧ n' < 256 ∧ Value.int .i64 ((n : Int) / 2) = .int .i64 n' ∧ Value.bool (!(e == (bits BinOp.and IntKind.i64 (n : Int) 1 == 1))) = .bool e' ∧ (e' != prf f' n') = B := by
  cases f with
  | zero => simp at hn; omega
  | succ f =>
    refine ⟨f, n / 2, _, by rw [Nat.pow_succ] at hn; omega, by omega, by simp, rfl, ?_⟩
    rw [← H, i64_and1 n hn2]
    simp only [prf]
    have : (((n % 2 : Nat) : Int) == 1) = (n % 2 == 1) := by rw [Bool.eq_iff_iff]; simp; omega
    rw [this]
    cases e <;> cases (n % 2 == 1) <;> cases prf f (n / 2) <;> rfl
theorem pop8_wrap : ∀ v : Fin 256, wrap64 (Lib.pop8 (v.val : Int)) = Lib.pop8 (v.val : Int) ∧ 0 ≤ Lib.pop8 (v.val : Int) ∧ Lib.pop8 (v.val : Int) ≤ 8 := by decide +kernel
def parB (v : Int) : Bool := decide (0 ≤ v ∧ v ≤ 255) && !prf 8 v.toNat
theorem parB_no {v : Int} (h : ¬ (0 ≤ v ∧ v ≤ 255)) : false = parB v := by unfold parB; rw [decide_eq_false h]; rfl
end Go.Proofs.Ytohnddjijedfkaa
