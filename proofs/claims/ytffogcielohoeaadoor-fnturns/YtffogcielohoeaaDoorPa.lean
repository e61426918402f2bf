/- What impl.Parity and spec.Parity answer, and the functions that they call: both are the one test parB, in every world, which stays as it was. -/
import Derived.Test.YtffogcielohoeaaDoorBase
import Derived.WalkKit
import Derived.ProofKit
import Derived.Lib.Tables
import Derived.Laws.BitsAllLaws
namespace Go.Proofs.YtffogcielohoeaaDoor
open Go.ChangeShapes Go.WideShapes Go.ChangeAt Go.RowKit
set_option linter.unusedVariables false

def prf : Nat → Nat → Bool
  | 0, _ => false
  | f + 1, n => (n % 2 == 1) != prf f (n / 2)
theorem prf_zero (f : Nat) : prf f 0 = false := by
  induction f with
  | zero => rfl
  | succ f ih => simp [prf, ih]
theorem i64_and1 (n : Nat) (h : n < 256) : bits .and .i64 (n : Int) 1 = ((n % 2 : Nat) : Int) := by
  show IntKind.i64.wrap ((BitVec.ofInt 64 (n : Int) &&& BitVec.ofInt 64 1).toNat : Nat) = _
  have h1 : (BitVec.ofInt 64 1).toNat = 1 := by decide
  rw [BitVec.toNat_and, BitVec.toNat_ofInt, h1, Nat.and_one_is_mod, IntKind.wrap_i64]
  omega
theorem pop8_par : ∀ v : Fin 256, (Lib.pop8 (v.val : Int) % 2 == 0) = !prf 8 v.val := by decide +kernel

set_option maxRecDepth 100000 in
theorem ones_any (x : Int) (w : World) (h0 : 0 ≤ x) (h1 : x ≤ 255) : Calls Tryd.prog 46 #[.int .u8 x] w fun e w' => e = .returned (.int .i64 (wrap64 (Lib.pop8 x))) ∧ w' = w := by
  go_enter Tryd.func46, Tryd.ntmps46
  go_wp2
  go_ret
  exact ⟨ret_int rfl, rfl⟩
theorem round_par {e : Bool} {f n : Nat} (h : 0 < n) (hn : n < 2 ^ f) (hn2 : n < 256) {B : Bool} (H : (e != prf f n) = B) :
    ∃ (f' n' : Nat) (e' : Bool), n' < 2 ^ f' ∧ n' < 256 ∧ Value.int .i64 ((n : Int) / 2) = .int .i64 n' ∧ Value.bool (!(e == (bits BinOp.and IntKind.i64 (n : Int) 1 == 1))) = .bool e' ∧ (e' != prf f' n') = B := by
  cases f with
  | zero => simp at hn; omega
  | succ f =>
    refine ⟨f, n / 2, _, by rw [Nat.pow_succ] at hn; omega, by omega, by simp, rfl, ?_⟩
    rw [← H, i64_and1 n hn2]
    simp only [prf]
    have : (((n % 2 : Nat) : Int) == 1) = (n % 2 == 1) := by rw [Bool.eq_iff_iff]; simp; omega
    rw [this]
    cases e <;> cases (n % 2 == 1) <;> cases prf f (n / 2) <;> rfl
theorem par_spec (v : Nat) (w : World) (hv : v < 256) : Calls Tryd.prog 75 #[.int .i64 v] w fun e w' => e = .returned (.bool (!prf 8 v)) ∧ w' = w := by
  go_enter Tryd.func75, Tryd.ntmps75
  go_wp2
  go_loop [0, 3] (fun x b => ∃ (f n : Nat) (e : Bool), n < 2 ^ f ∧ n < 256 ∧ x = .int .i64 n ∧ b = .bool e ∧ (e != prf f n) = (!prf 8 v)) (fun x _ => (intOf x).toNat)
  case atStart => exact ⟨8, v, true, by omega, by omega, rfl, rfl, by simp⟩
  case round =>
    obtain ⟨f, n, e, hn, hn2, rfl, rfl, h⟩ := hrel
    have HA : Hid ((e != prf f n) = (!prf 8 v)) := h
    clear h
    by_cases hlt : 0 < n
    · go_wp2
      go_round
      case rel => exact round_par hlt hn hn2 HA.out
      case measure => simp [intOf]; omega
    · obtain rfl : n = 0 := by omega
      go_wp2
      go_ret
      exact ⟨by rw [← HA.out, prf_zero]; simp, rfl⟩
theorem pop8_wrap : ∀ v : Fin 256, wrap64 (Lib.pop8 (v.val : Int)) = Lib.pop8 (v.val : Int) ∧ 0 ≤ Lib.pop8 (v.val : Int) ∧ Lib.pop8 (v.val : Int) ≤ 8 := by decide +kernel
def parB (v : Int) : Bool := decide (0 ≤ v ∧ v ≤ 255) && !prf 8 v.toNat
theorem parB_no {v : Int} (h : ¬ (0 ≤ v ∧ v ≤ 255)) : false = parB v := by unfold parB; rw [decide_eq_false h]; rfl
theorem par_impl (v : Int) (w : World) : Calls Tryd.prog 21 #[.int .i64 v] w fun e w' => e = .returned (.bool (parB v)) ∧ w' = w := by
  by_cases h0 : 0 ≤ v
  · by_cases h1 : v ≤ 255
    · have hp := pop8_par ⟨v.toNat, by omega⟩
      obtain ⟨hw, hp0, hp8⟩ := pop8_wrap ⟨v.toNat, by omega⟩
      have e : ((v.toNat : Nat) : Int) = v := by omega
      simp only [e] at hp hw hp0 hp8
      have HP : Hid ((Lib.pop8 v % 2 == 0) = !prf 8 v.toNat) := hp
      clear hp e
      go_enter Tryd.func21, Tryd.ntmps21
      go_wp2_with (first | (go_at_call 46; refine (ones_any _ _ (by omega) (by omega)).mono ?_; rintro e w' ⟨rfl, rfl⟩) | go_in)
      go_ret
      exact ⟨ret_bool (by unfold parB; rw [← HP.out]; simp [h0, h1]), rfl⟩
    · go_enter Tryd.func21, Tryd.ntmps21
      go_wp2
      go_ret
      exact ⟨ret_bool (parB_no (by omega)), rfl⟩
  · go_enter Tryd.func21, Tryd.ntmps21
    go_wp2
    go_ret
    exact ⟨ret_bool (parB_no (by omega)), rfl⟩
end Go.Proofs.YtffogcielohoeaaDoor
