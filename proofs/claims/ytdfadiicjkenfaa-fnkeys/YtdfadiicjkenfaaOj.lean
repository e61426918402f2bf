/- The law of keys: what is read of a key that is down. -/
import Derived.Test.YtdfadiicjkenfaaOi
import Derived.Test.YtdfadiicjkenfaaOf
import Derived.Test.YtdfadiicjkenfaaAx
namespace Go.Proofs.Ytdfadiicjkenfaa
open Go.ChangeShapes Go.WideShapes Go.ChangeAt Go.RowKit
set_option linter.unusedVariables false
set_option linter.unusedSimpArgs false

/-- new ports with one key down -/
def onP (r k : Nat) : Po := neP.put (keyN 31 k true : Nat) r
theorem on_press (r k : Nat) (hr : r < 8) (hk : k < 5) : press2 neP (r : Int) (k : Int) true = (onP r k, 0) := by
  unfold press2
  rw [if_pos okP_new, if_pos (by rw [in_yes (by omega) (by omega), in_yes (by omega) (by omega)]; rfl)]
  simp only [Int.toNat_natCast]
  have : neP.key r = 31 := by rcases eight hr with rfl | rfl | rfl | rfl | rfl | rfl | rfl | rfl <;> rfl
  rw [this]
  rfl
theorem key_back : ∀ k : Nat, k < 5 → keyN (keyN 31 k true) k false = 31 := by decide +kernel
theorem keyN_lt : ∀ k : Nat, k < 5 → keyN 31 k true < 32 := by decide +kernel
theorem on_ok (r k : Nat) (hk : k < 5) : okP (onP r k) = true := okP_put okP_new r _ (by omega) (by have := keyN_lt k hk; omega)
theorem on_key (r k : Nat) (hr : r < 8) : (onP r k).key r = (keyN 31 k true : Nat) := by
  rcases eight hr with rfl | rfl | rfl | rfl | rfl | rfl | rfl | rfl <;> rfl
theorem on_back (r k : Nat) (hr : r < 8) (hk : k < 5) : press2 (onP r k) (r : Int) (k : Int) false = (neP, 0) := by
  unfold press2
  rw [if_pos (on_ok r k hk), if_pos (by rw [in_yes (by omega) (by omega), in_yes (by omega) (by omega)]; rfl)]
  simp only [Int.toNat_natCast]
  rw [on_key r k hr, Int.toNat_natCast, key_back k hk]
  rcases eight hr with rfl | rfl | rfl | rfl | rfl | rfl | rfl | rfl <;> rfl
theorem new_read : read2 neP 0 false = (191, 0) := by decide +kernel
/-- the three answers, as numbers -/
def onN (r k rows : Nat) (ear : Bool) : Nat := readN (fun i => ((onP r k).key i).toNat) rows ear
theorem on_all : ∀ r : Nat, r < 8 → ∀ k : Nat, k < 5 → onN r k 0 true = 255 - 2 ^ k ∧ onN r k (255 - 2 ^ r) false = 191 - 2 ^ k ∧ onN r k (255 - 2 ^ ((r + 1) % 8)) false = 191 := by decide +kernel
theorem on_read (r k rows : Nat) (ear : Bool) (hk : k < 5) (h : rows < 256) : read2 (onP r k) (rows : Int) ear = (((onN r k rows ear : Nat) : Int), (0 : Int)) := by
  unfold read2
  rw [if_pos (on_ok r k hk), if_pos (in_yes (by omega) (by omega)), Int.toNat_natCast]
  rfl
theorem pow_lt (r : Nat) (hr : r < 8) : 2 ^ r ≤ 128 ∧ 1 ≤ 2 ^ r := by
  rcases eight hr with rfl | rfl | rfl | rfl | rfl | rfl | rfl | rfl <;> decide
theorem wrap_255 (r : Nat) (hr : r < 8) : IntKind.i64.wrap (255 - IntKind.i64.wrap (2 ^ r)) = ((255 - 2 ^ r : Nat) : Int) := by
  rcases eight hr with rfl | rfl | rfl | rfl | rfl | rfl | rfl | rfl <;> decide
theorem wrap_pow (r : Nat) (hr : r < 8) : IntKind.i64.wrap (2 ^ r) = ((2 ^ r : Nat) : Int) := by
  rcases eight hr with rfl | rfl | rfl | rfl | rfl | rfl | rfl | rfl <;> decide
theorem wrap_small (n : Nat) (h : n < 256) : IntKind.i64.wrap (n : Int) = (n : Int) := by
  rw [IntKind.wrap_i64]
  omega
theorem wrap_tmod (r : Nat) (hr : r < 8) : (IntKind.i64.wrap ((r : Int) + 1)).tmod 8 = (((r + 1) % 8 : Nat) : Int) := by
  rcases eight hr with rfl | rfl | rfl | rfl | rfl | rfl | rfl | rfl <;> decide
theorem read_ok (c : Po) (h : okP c = true) (v : Nat) (hv : v < 256) (ear : Bool) : read2 c (v : Int) ear = (((readN (fun k => (c.key k).toNat) v ear : Nat) : Int), (0 : Int)) := by
  unfold read2
  rw [if_pos h, if_pos (in_yes (by omega) (by omega)), Int.toNat_natCast]
end Go.Proofs.Ytdfadiicjkenfaa
