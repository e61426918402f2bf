/- A block that is taken off a cursor, whole: the specification. -/
import Derived.Test.YtakdhmlegickmaaDoorUdw
namespace Go.Proofs.YtakdhmlegickmaaDoor
open Go.ChangeShapes Go.WideShapes Go.ChangeAt Go.RowKit
set_option linter.unusedVariables false
set_option linter.unusedSimpArgs false

theorem wordOf_nat (t : ByteArray) : ∃ n : Nat, wordOf t = n ∧ n ≤ 65535 := by
  have h0 := byt_bd t 0
  have h1 := byt_bd t 1
  unfold wordOf
  exact ⟨(byt t 0 + 256 * byt t 1).toNat, by omega, by omega⟩
theorem tkb_spec (s : ByteArray) (a : Int) (w : World) (hs : s.size ≤ maxLen) : Calls Tryd.prog 50 #[cur s a] w fun e w' => e = .returned (tkT (tkB s a)) ∧ Below w.heap.size w w' := by
  have hC := fun W => cursor_spec s a W hs
  cases hst : stB s a
  · have e : tkB s a = (((ByteArray.empty, 0), (0, ByteArray.empty)), 1) := by unfold tkB; rw [if_pos hst]
    rw [e]
    rw [hst] at hC
    exact tk_a s a w hC
  · rw [hst] at hC
    have hT := fun W => takeWord_spec s a W hs
    have hz : (takeV s a 2).2.2 = 0 → (takeV s a 2).2.1.size = 2 ∧ (takeV s a 2).1.1 = s := fun h => ⟨(takeV_size s a 2 h).1, (takeV_size s a 2 h).2.1⟩
    by_cases h1 : (takeV s a 2).2.2 ≠ 0
    · have e : tkB s a = (((s, a), (0, ByteArray.empty)), (takeV s a 2).2.2) := by unfold tkB; rw [if_neg (by rw [hst]; simp), if_pos h1]
      rw [e]
      exact tk_b s a w _ _ _ _ h1 hC hT
    · have h1' : (takeV s a 2).2.2 = 0 := Decidable.not_not.1 h1
      obtain ⟨z1, z2⟩ := hz h1'
      have e1 : twV (takeV s a 2) = .tuple #[cur (takeV s a 2).1.1 (takeV s a 2).1.2, .int .i64 (wordOf (takeV s a 2).2.1), .int .i64 0] := by
        unfold twV wordOf
        rw [if_pos h1', h1']
      simp only [e1] at hT
      obtain ⟨n, hn, hn2⟩ := wordOf_nat (takeV s a 2).2.1
      have hK := fun W => take_spec (takeV s a 2).1.1 (takeV s a 2).1.2 (wordOf (takeV s a 2).2.1) W (by rw [z2]; exact hs)
      have hy := takeV_size (takeV s a 2).1.1 (takeV s a 2).1.2 n
      rw [← hn] at hy
      by_cases h2 : (takeV (takeV s a 2).1.1 (takeV s a 2).1.2 (wordOf (takeV s a 2).2.1)).2.2 ≠ 0
      · have e : tkB s a = (((s, a), (0, ByteArray.empty)), (takeV (takeV s a 2).1.1 (takeV s a 2).1.2 (wordOf (takeV s a 2).2.1)).2.2) := by unfold tkB; rw [if_neg (by rw [hst]; simp), if_neg h1, if_pos h2]
        rw [e]
        exact tk_c s a w _ _ _ _ _ _ _ h2 hC hT hK
      · have h2' := Decidable.not_not.1 h2
        obtain ⟨y1, _⟩ := hy h2'
        have hO := fun W => bkof_spec (takeV (takeV s a 2).1.1 (takeV s a 2).1.2 (wordOf (takeV s a 2).2.1)).2.1 W (by rw [y1]; unfold maxLen; omega)
        unfold takeT at hK
        rw [h2'] at hK
        by_cases h3 : (ofB (takeV (takeV s a 2).1.1 (takeV s a 2).1.2 (wordOf (takeV s a 2).2.1)).2.1).2 ≠ 0
        · have e : tkB s a = (((s, a), (0, ByteArray.empty)), (ofB (takeV (takeV s a 2).1.1 (takeV s a 2).1.2 (wordOf (takeV s a 2).2.1)).2.1).2) := by unfold tkB; rw [if_neg (by rw [hst]; simp), if_neg h1, if_neg h2, if_pos h3]
          rw [e]
          exact tk_d s a w _ _ _ _ _ _ _ _ _ h3 hC hT hK hO
        · have h3' := Decidable.not_not.1 h3
          have e : tkB s a = (((takeV (takeV s a 2).1.1 (takeV s a 2).1.2 (wordOf (takeV s a 2).2.1)).1, (ofB (takeV (takeV s a 2).1.1 (takeV s a 2).1.2 (wordOf (takeV s a 2).2.1)).2.1).1), 0) := by unfold tkB; rw [if_neg (by rw [hst]; simp), if_neg h1, if_neg h2, if_neg h3]
          rw [e]
          unfold ofT at hO
          rw [h3'] at hO
          exact tk_e s a w _ _ _ _ _ _ _ _ hC hT hK hO
end Go.Proofs.YtakdhmlegickmaaDoor
