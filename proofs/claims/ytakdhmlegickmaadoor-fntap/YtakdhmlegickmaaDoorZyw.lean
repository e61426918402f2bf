/- Plain facts of the law FnTap. -/
import Derived.Test.YtakdhmlegickmaaDoorZxw
import Derived.Test.YtakdhmlegickmaaDoorZvw
namespace Go.Proofs.YtakdhmlegickmaaDoor
open Go.ChangeShapes Go.WideShapes Go.ChangeAt Go.RowKit
set_option linter.unusedVariables false
set_option linter.unusedSimpArgs false

theorem byt_big (a : ByteArray) (i : Nat) (hi : a.size ≤ i) : byt a i = 0 := by
  unfold byt
  rw [List.getD_eq_getElem?_getD, List.getElem?_eq_none (by rw [Array.length_toList]; exact hi)]
  rfl
theorem bent_at (S : ByteArray) (K : Nat) (x : Int) (hK : K < S.size) (hx : 0 ≤ x ∧ x ≤ 255) : (S.extract 0 K ++ strOfNums [x] ++ S.extract (K + 1) S.size).size = S.size ∧ byt (S.extract 0 K ++ strOfNums [x] ++ S.extract (K + 1) S.size) K = x ∧ ∀ i, i ≠ K → byt (S.extract 0 K ++ strOfNums [x] ++ S.extract (K + 1) S.size) i = byt S i := by
  have z1 : (S.extract 0 K).size = K := by rw [ByteArray.size_extract]; omega
  have z2 : (strOfNums [x]).size = 1 := strOfNums_size _
  have z3 : (S.extract (K + 1) S.size).size = S.size - (K + 1) := by rw [ByteArray.size_extract]; omega
  refine ⟨?_, ?_, fun i hi => ?_⟩
  · rw [ByteArray.size_append, ByteArray.size_append, z1, z2, z3]; omega
  · rw [byt_cat, ByteArray.size_append, z1, z2, if_pos (by omega), byt_cat, z1, if_neg (by omega), Nat.sub_self, byt_one x hx]
  · rw [byt_cat, ByteArray.size_append, z1, z2]
    by_cases h1 : i < K + 1
    · rw [if_pos h1, byt_cat, z1, if_pos (by omega), byt_cut S 0 K i (by omega) (by omega), Nat.zero_add]
    · rw [if_neg h1]
      by_cases h2 : i < S.size
      · rw [byt_cut S (K + 1) S.size (i - (K + 1)) (by omega) (by omega)]
        congr 1
        omega
      · rw [byt_big _ _ (by rw [z3]; omega), byt_big S i (by omega)]
/-- with another byte in it a block is told -/
theorem tap_bent (F : Int) (D : ByteArray) (v q : Nat) (hok : okB F D = true) (hv : v < D.size + 2) (hq : q < 255) :
    ∃ x : Int, bits .xor .u8 (byt (txtB F D) (2 + v)) ((q + 1 : Nat) : Int) = x ∧ 0 ≤ x ∧ x ≤ 255 ∧ (rd2 ((txtB F D).extract 0 (2 + v) ++ strOfNums [x] ++ (txtB F D).extract (2 + v + 1) (txtB F D).size)).2 = 10 := by
  obtain ⟨y, hy, hy2⟩ := byt_nat (txtB F D) (2 + v)
  have hx := bXor8 y (q + 1) hy2 (by omega)
  have hxl : Nat.xor y (q + 1) < 256 := (xor_two y (q + 1) hy2 (by omega)).2
  have zt := txtB_size F D
  refine ⟨((Nat.xor y (q + 1) : Nat) : Int), by rw [hy]; exact hx, by omega, by omega, ?_⟩
  obtain ⟨b1, b2, b3⟩ := bent_at (txtB F D) (2 + v) ((Nat.xor y (q + 1) : Nat) : Int) (by omega) (by omega)
  exact rd_bent F D _ v (q + 1) hok (by omega) hv b1 ⟨y, hy, hy2, b2⟩ b3
/-- a block's text with a tape behind it -/
theorem tap_first (F : Int) (D t : ByteArray) (hok : okB F D = true) (hz : (txtB F D ++ t).size ≤ 65536) : tkB (txtB F D ++ t) 0 = (((txtB F D ++ t, ((txtB F D).size : Int)), (F, D)), 0) := by
  have h := tkB_txt ByteArray.empty t F D hok (by rw [ByteArray.empty_append]; exact hz)
  rw [ByteArray.empty_append] at h
  have e : ByteArray.empty.size = 0 := rfl
  rw [e, Nat.zero_add] at h
  exact h
theorem tap_last (F : Int) (D : ByteArray) (hok : okB F D = true) : byt (txtB F D) (D.size + 3) = sumB F D := by
  obtain ⟨hf, hs⟩ := (okB_iff F D).1 hok
  obtain ⟨_, _, t2⟩ := txtB_at F D hs
  obtain ⟨_, _, h2⟩ := bytB_at F D hf (sumB_bd F D hf)
  rw [show D.size + 3 = 2 + (D.size + 1) by omega, t2, h2]
end Go.Proofs.YtakdhmlegickmaaDoor
