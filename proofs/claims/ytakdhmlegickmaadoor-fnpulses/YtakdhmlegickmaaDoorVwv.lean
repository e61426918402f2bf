/- A byte is read back from its bits. -/
import Derived.Test.YtakdhmlegickmaaDoorVav
namespace Go.Proofs.YtakdhmlegickmaaDoor
open Go.ChangeShapes Go.WideShapes Go.ChangeAt Go.RowKit
set_option linter.unusedVariables false

def bits8 (n : Nat) : List Int := (List.range 8).map fun j => ((n / 2 ^ (7 - j) % 2 : Nat) : Int)
theorem bits8_len (n : Nat) : (bits8 n).length = 8 := by simp [bits8]
theorem bits8_all : allB 256 (fun n => decide (byte2 (bits8 n) = ((n : Int), 0))) = true := by decide +kernel
theorem bits8_byte (n : Nat) (h : n < 256) : byte2 (bits8 n) = ((n : Int), 0) := of_decide_eq_true (allB_at bits8_all n h)
theorem bits8_at (n j : Nat) (h : j < 8) : (bits8 n).getD j 0 = ((n / 2 ^ (7 - j) % 2 : Nat) : Int) := by
  simp [bits8, List.getD_eq_getElem?_getD, List.getElem?_range h]
/-- the bits of byte i, in the bits of the text -/
theorem bits_byte (t : ByteArray) (n i j : Nat) (h : 8 * i + 8 ≤ n) (hj : j < 8) : (bitL t n).getD (8 * i + j) 0 = (bits8 (byt t i).toNat).getD j 0 := by
  rw [bitL_at _ _ _ (by omega), bits8_at _ _ hj]
  unfold bitN
  rw [show (8 * i + j) / 8 = i by omega, show (8 * i + j) % 8 = j by omega]
theorem byt_byte2 (t : ByteArray) (i : Nat) : byte2 (bits8 (byt t i).toNat) = (byt t i, 0) := by
  have hb := byt_bd t i
  rw [bits8_byte _ (by omega)]
  rw [Int.toNat_of_nonneg hb.1]
end Go.Proofs.YtakdhmlegickmaaDoor
