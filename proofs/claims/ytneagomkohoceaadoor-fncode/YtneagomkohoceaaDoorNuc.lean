/- Numbers as texts: the digits of a number, the number that digits are, and that the one undoes the other. -/
import Derived.Test.YtneagomkohoceaaDoorBasec
import Derived.Lib.ItoaNum
namespace Go.Proofs.YtneagomkohoceaaDoor
open Go.ChangeShapes Go.WideShapes Go.ChangeAt Go.RowKit
set_option linter.unusedVariables false
set_option linter.unusedSimpArgs false

/-- what the first k signs of a text come to, taken as digits -/
def valS (s : ByteArray) : Nat → Int
  | 0 => 0
  | k + 1 => 10 * valS s k + (byt s k - 48)
def digS (s : ByteArray) (k : Nat) : Prop := ∀ i, i < k → 48 ≤ byt s i ∧ byt s i ≤ 57
/-- digits alone, one to eighteen, no needless nought ahead -/
def isNum (s : ByteArray) : Prop := 1 ≤ s.size ∧ s.size ≤ 18 ∧ (1 < s.size → byt s 0 ≠ 48) ∧ digS s s.size
theorem valS_bd {s : ByteArray} : ∀ k, digS s k → 0 ≤ valS s k ∧ valS s k < 10 ^ k
  | 0, _ => by simp [valS]
  | k + 1, h => by
    have ih := valS_bd k (fun i hi => h i (by omega))
    have hd := h k (by omega)
    simp only [valS, Int.pow_succ]
    omega
theorem pow18 {k : Nat} (h : k ≤ 18) : (10 : Int) ^ k ≤ 1000000000000000000 := by
  have : (10 : Nat) ^ k ≤ 10 ^ 18 := Nat.pow_le_pow_right (by decide) h
  have e : (10 : Nat) ^ 18 = 1000000000000000000 := by decide
  rw [e] at this
  have h2 : ((10 ^ k : Nat) : Int) ≤ ((1000000000000000000 : Nat) : Int) := Int.ofNat_le.2 this
  rw [Int.natCast_pow] at h2
  exact h2
theorem valS_lt {s : ByteArray} {k : Nat} (h : digS s k) (hk : k ≤ 18) : 0 ≤ valS s k ∧ valS s k < 1000000000000000000 := by
  have h1 := valS_bd k h
  have h2 := pow18 hk
  omega
theorem valS_pos {s : ByteArray} (h0 : byt s 0 ≠ 48) : ∀ k, 1 ≤ k → digS s k → 1 ≤ valS s k
  | 1, _, h => by
    have hd := h 0 (by omega)
    simp only [valS]
    omega
  | k + 2, _, h => by
    have ih := valS_pos h0 (k + 1) (by omega) (fun i hi => h i (by omega))
    have hd := h (k + 1) (by omega)
    rw [valS]
    omega
theorem byte_of {s : ByteArray} {k : Nat} (hk : k < s.size) (h : 48 ≤ byt s k ∧ byt s k ≤ 57) (d : Nat) (hd : (d : Int) = byt s k - 48) : s.data.toList.take (k + 1) = s.data.toList.take k ++ [UInt8.ofNat (48 + d)] := by
  have hl : k < s.data.toList.length := by simpa using hk
  rw [List.take_succ_eq_append_getElem hl]
  congr 2
  unfold byt at h hd
  rw [List.getD_eq_getElem?_getD, List.getElem?_eq_getElem hl] at h hd
  simp only [Option.getD_some] at h hd
  apply UInt8.toNat_inj.1
  rw [UInt8.toNat_ofNat']
  have := (s.data.toList[k]).toNat_lt
  omega
/-- the digits of what digits come to are these digits -/
theorem digits_back {s : ByteArray} (hn : 1 < s.size → byt s 0 ≠ 48) (hs : digS s s.size) : ∀ k, 1 ≤ k → k ≤ s.size → Go.Lib.decDigits (valS s k).toNat = s.data.toList.take k
  | 1, _, hk => by
    have hd := hs 0 (by omega)
    have e : valS s 1 = byt s 0 - 48 := by simp [valS]
    rw [Go.Lib.decDigits, dif_pos (by rw [e]; omega), byte_of (by omega) hd (valS s 1).toNat (by rw [e]; omega)]
    rfl
  | k + 2, _, hk => by
    have hd := hs (k + 1) (by omega)
    have ih := digits_back hn hs (k + 1) (by omega) (by omega)
    have hp := valS_pos (hn (by omega)) (k + 1) (by omega) (fun i hi => hs i (by omega))
    have e : valS s (k + 2) = 10 * valS s (k + 1) + (byt s (k + 1) - 48) := rfl
    rw [Go.Lib.decDigits, dif_neg (by rw [e]; omega)]
    have e1 : (valS s (k + 2)).toNat / 10 = (valS s (k + 1)).toNat := by rw [e]; omega
    rw [e1, ih, byte_of (by omega) hd ((valS s (k + 2)).toNat % 10) (by rw [e]; omega)]
theorem num_back {s : ByteArray} (h : isNum s) : (⟨(Go.Lib.decDigits (valS s s.size).toNat).toArray⟩ : ByteArray) = s := by
  rw [digits_back h.2.2.1 h.2.2.2 s.size h.1 (Nat.le_refl _)]
  have hl : s.data.toList.length = s.size := by simp
  rw [← hl, List.take_length]
theorem digS_snoc {s : ByteArray} {k : Nat} (h : digS s k) (hk : 48 ≤ byt s k ∧ byt s k ≤ 57) : digS s (k + 1) := fun i hi => by
  by_cases e : i = k
  · rw [e]; exact hk
  · exact h i (by omega)
theorem not_digS {s : ByteArray} {k n : Nat} (hk : k < n) (h : ¬ (48 ≤ byt s k ∧ byt s k ≤ 57)) : ¬ digS s n := fun hd => h (hd k hk)
instance isNumD (s : ByteArray) : Decidable (isNum s) := by unfold isNum digS; exact inferInstance
end Go.Proofs.YtneagomkohoceaaDoor
