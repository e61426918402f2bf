/- Plain facts: the sum of a block, read off its bytes. -/
import Derived.Test.YtakdhmlegickmaaDoorUcw
import Derived.Test.YtakdhmlegickmaaDoorWmw
namespace Go.Proofs.YtakdhmlegickmaaDoor
open Go.ChangeShapes Go.WideShapes Go.ChangeAt Go.RowKit
set_option linter.unusedVariables false
set_option linter.unusedSimpArgs false

/-- the exclusive or of two bytes, as numbers -/
theorem byt_nat (s : ByteArray) (k : Nat) : ∃ n : Nat, byt s k = n ∧ n < 256 := ⟨(byt s k).toNat, by have := byt_bd s k; omega, by have := byt_bd s k; omega⟩
theorem xor_two (a b : Nat) (ha : a < 256) (hb : b < 256) : bits .xor .i64 (a : Int) (b : Int) = ((Nat.xor a b : Nat) : Int) ∧ Nat.xor a b < 256 :=
  ⟨bXor a b (by omega) (by omega), Nat.xor_lt_two_pow (n := 8) (by omega) (by omega)⟩
theorem xor_zero_iff (a b : Nat) : Nat.xor a b = 0 ↔ a = b := by
  show (a ^^^ b) = 0 ↔ a = b
  constructor
  · intro h
    have h1 : a ^^^ (a ^^^ b) = a := by rw [h, Nat.xor_zero]
    rw [← Nat.xor_assoc, Nat.xor_self, Nat.zero_xor] at h1
    exact h1.symm
  · rintro rfl
    exact Nat.xor_self a
theorem xor_at {a : Int} {s : ByteArray} {k : Nat} (m : Nat) (hm : m < 256) (h : xorN s k = (m : Int)) : ∃ y : Nat, byt s k = y ∧ y < 256 ∧ xorN s (k + 1) = ((Nat.xor m y : Nat) : Int) := by
  obtain ⟨y, hy, hy2⟩ := byt_nat s k
  refine ⟨y, hy, hy2, ?_⟩
  show bits .xor .i64 (xorN s k) (byt s k) = _
  rw [h, hy]
  exact (xor_two m y hm hy2).1
theorem xor_assoc (a b c : Nat) : Nat.xor (Nat.xor a b) c = Nat.xor a (Nat.xor b c) := Nat.xor_assoc a b c
/-- the bytes behind the first one, xored onto it -/
theorem xor_tail (t u : ByteArray) (b0 : Nat) (hb : byt t 0 = b0) (hb2 : b0 < 256) : ∀ j, (∀ i, i < j → byt u i = byt t (1 + i)) → ∃ m : Nat, xorN u j = m ∧ m < 256 ∧ xorN t (1 + j) = ((Nat.xor b0 m : Nat) : Int) := by
  intro j
  induction j with
  | zero =>
    intro _
    refine ⟨0, rfl, by omega, ?_⟩
    show bits .xor .i64 0 (byt t 0) = _
    rw [hb]
    have := (xor_two 0 b0 (by omega) hb2).1
    rw [show ((0 : Nat) : Int) = 0 from rfl] at this
    rw [this, show Nat.xor 0 b0 = b0 from Nat.zero_xor b0, show Nat.xor b0 0 = b0 from Nat.xor_zero b0]
  | succ j ih =>
    intro h
    obtain ⟨m, h1, h2, h3⟩ := ih (fun i hi => h i (by omega))
    obtain ⟨y, hy, hy2⟩ := byt_nat u j
    have hk := h j (by omega)
    refine ⟨Nat.xor m y, ?_, (xor_two m y h2 hy2).2, ?_⟩
    · show bits .xor .i64 (xorN u j) (byt u j) = _
      rw [h1, hy]
      exact (xor_two m y h2 hy2).1
    · show bits .xor .i64 (xorN t (1 + j)) (byt t (1 + j)) = _
      rw [h3, ← hk, hy, (xor_two (Nat.xor b0 m) y (xor_two b0 m hb2 h2).2 hy2).1, xor_assoc]
/-- a block's bytes xored are nothing just where its sum is the last one -/
theorem xor_sum (t : ByteArray) (n : Nat) (hn : 1 ≤ n) (hs : t.size = n + 1) : xorN t t.size = 0 ↔ sumB (byt t 0) (t.extract 1 n) = byt t n := by
  obtain ⟨b0, h0, h02⟩ := byt_nat t 0
  have hsz : (t.extract 1 n).size = n - 1 := by rw [ByteArray.size_extract]; omega
  obtain ⟨m, h1, h2, h3⟩ := xor_tail t (t.extract 1 n) b0 h0 h02 (n - 1) (fun i hi => byt_cut t 1 n i (by omega) (by omega))
  obtain ⟨y, hy, hy2⟩ := byt_nat t n
  have e : 1 + (n - 1) = n := by omega
  rw [e] at h3
  have hx := xor_two b0 m h02 h2
  have hL : xorN t t.size = ((Nat.xor (Nat.xor b0 m) y : Nat) : Int) := by
    rw [hs]
    show bits .xor .i64 (xorN t n) (byt t n) = _
    rw [h3, hy]
    exact (xor_two _ y hx.2 hy2).1
  have hS : sumB (byt t 0) (t.extract 1 n) = ((Nat.xor b0 m : Nat) : Int) := by
    unfold sumB
    rw [hsz, h1, h0]
    exact hx.1
  rw [hL, hS, hy]
  constructor
  · intro h
    have := (xor_zero_iff (Nat.xor b0 m) y).1 (by omega)
    omega
  · intro h
    have := (xor_zero_iff (Nat.xor b0 m) y).2 (by omega)
    omega
end Go.Proofs.YtakdhmlegickmaaDoor
