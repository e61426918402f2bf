/- What the law of edges asks of decks, as plain numbers. -/
import Derived.Test.YtohnddjijedfkaaDyk
import Derived.Test.YtohnddjijedfkaaVak
namespace Go.Proofs.Ytohnddjijedfkaa
open Go.ChangeShapes Go.WideShapes Go.ChangeAt Go.RowKit
set_option linter.unusedVariables false
set_option linter.unusedSimpArgs false

theorem goto0 (T : List Int) : Dk.goto ⟨T, 0, 0, false, false⟩ 0 = ⟨T, 0, T.getD 0 0, false, false⟩ := by
  have e : Dk.goto ⟨T, 0, 0, false, false⟩ 0 = ⟨T, 0, if (0 : Int) < (T.length : Int) then T.getD (0 : Int).toNat 0 else 0, false, false⟩ := rfl
  rw [e]
  by_cases h : 0 < T.length
  · rw [if_pos (by omega)]
    rfl
  · obtain rfl : T = [] := List.length_eq_zero_iff.1 (by omega)
    rfl
theorem new_ok {T : List Int} (hT : okPl T = true) : (Dk.mk T 0 (T.getD 0 0) false false).ok = true := by
  by_cases h : 0 < T.length
  · have hb := ((okPl_iff T).1 hT).1 0 h
    exact (Dk.ok_iff _).2 ⟨hT, ⟨Int.le_refl _, by show (0 : Int) ≤ (T.length : Int); omega⟩, .inr ⟨by show ¬ (0 : Int) = (T.length : Int); omega, hb.1, Int.le_refl _⟩⟩
  · obtain rfl : T = [] := List.length_eq_zero_iff.1 (by omega)
    rfl
theorem st0 {T : List Int} (h : 0 < T.length) : stD T 0 false = ⟨T, 0, T.getD 0 0, false, true⟩ := by
  unfold stD
  rw [if_pos h, decide_eq_true h]
  rfl
theorem same_self {d : Dk} (h : d.ok = true) : d.same d = true := by
  unfold Dk.same
  rw [h]
  simp
structure Edges (T : List Int) (N : Int) : Prop where
  ok : (Dk.mk T 0 (T.getD 0 0) false false).ok = true
  play : play2 ⟨T, 0, T.getD 0 0, false, false⟩ = (⟨T, 0, T.getD 0 0, false, true⟩, 0)
  run : runV ⟨T, 0, T.getD 0 0, false, true⟩ (N - 1) = ((⟨T, (T.length : Int) - 1, 1, decide ((T.length - 1) % 2 = 1), true⟩, (T.length : Int) - 1), 0)
  last : runV ⟨T, (T.length : Int) - 1, 1, decide ((T.length - 1) % 2 = 1), true⟩ 1 = ((⟨T, (T.length : Int), 0, !decide ((T.length - 1) % 2 = 1), false⟩, 1), 0)
  rew : rew2 ⟨T, (T.length : Int), 0, !decide ((T.length - 1) % 2 = 1), false⟩ = (⟨T, 0, T.getD 0 0, false, false⟩, 0)
  again : play2 ⟨T, (T.length : Int), 0, !decide ((T.length - 1) % 2 = 1), false⟩ = (⟨T, (T.length : Int), 0, !decide ((T.length - 1) % 2 = 1), false⟩, 9)
  some : ∀ k, k < T.length → runV ⟨T, 0, T.getD 0 0, false, true⟩ (sumN T k) = ((⟨T, (k : Int), T.getD k 0, decide (k % 2 = 1), true⟩, (k : Int)), 0)
theorem edges_of {T : List Int} (hT : okPl T = true) (h0 : 0 < T.length) (hN : sumN T T.length ≤ 99960) : Edges T (sumN T T.length) := by
  have hb := ((okPl_iff T).1 hT).1
  have hNp : 1 ≤ sumN T T.length := by
    have := sumN_mono hT (show 1 ≤ T.length by omega) (Nat.le_refl _)
    have h1 : sumN T 1 = 0 + T.getD 0 0 := rfl
    have := (hb 0 h0).1
    omega
  have hx : (Dk.mk T 0 (T.getD 0 0) false true).ok = true := by rw [← st0 h0]; exact stD_ok hT (by omega) false
  have hy : (Dk.mk T ((T.length : Int) - 1) 1 (decide ((T.length - 1) % 2 = 1)) true).ok = true := by
    refine (Dk.ok_iff _).2 ⟨hT, ⟨by show (0 : Int) ≤ (T.length : Int) - 1; omega, by show (T.length : Int) - 1 ≤ (T.length : Int); omega⟩, .inr ⟨by show ¬ (T.length : Int) - 1 = (T.length : Int); omega, Int.le_refl _, ?_⟩⟩
    exact (Dk.pulse_bd hT (by show (0 : Int) ≤ (T.length : Int) - 1; omega) (by show (T.length : Int) - 1 < (T.length : Int); omega)).1
  have ez : stD T T.length (!decide ((T.length - 1) % 2 = 1)) = ⟨T, (T.length : Int), 0, !decide ((T.length - 1) % 2 = 1), false⟩ := by
    unfold stD
    rw [if_neg (by omega), show decide (T.length < T.length) = false from decide_eq_false (by omega)]
  have hz : (Dk.mk T (T.length : Int) 0 (!decide ((T.length - 1) % 2 = 1)) false).ok = true := by rw [← ez]; exact stD_ok hT (Nat.le_refl _) _
  have go : ∀ {d : Dk} {t : Int} {r : Dk × Int}, d.ok = true → 0 ≤ t → t ≤ 100000 → run2 d t = r → runV d t = (r, 0) := fun h h0 h1 hr => by
    unfold runV
    rw [if_pos h, if_pos (in_yes h0 h1), hr]
  refine ⟨new_ok hT, ?_, go hx (by omega) (by omega) (by rw [← st0 h0]; exact run_last hT h0), go hy (by omega) (by omega) (by rw [run_end h0, ez]), ?_, ?_, ?_⟩
  · unfold play2
    rw [if_pos (new_ok hT), if_neg (by show ¬ (0 : Int) = (T.length : Int); omega)]
  · unfold rew2
    rw [if_pos hz]
    show (Dk.goto ⟨T, 0, 0, false, false⟩ 0, (0 : Int)) = _
    rw [goto0]
  · unfold play2
    rw [if_pos hz, if_pos (by show (T.length : Int) = (T.length : Int); rfl)]
  · intro k hk
    have hs := sumN_mono hT (Nat.zero_le k) (by omega)
    have hs2 := sumN_mono hT (show k ≤ T.length by omega) (Nat.le_refl _)
    have hs0 : (0 : Int) ≤ sumN T k := hs
    refine go hx hs0 (by omega) ?_
    rw [← st0 h0, run_prefix hT (by omega)]
    unfold stD
    rw [if_pos hk, decide_eq_true hk]
theorem play_none {T : List Int} (hT : okPl T = true) (h0 : T.length = 0) : play2 ⟨T, 0, T.getD 0 0, false, false⟩ = (⟨T, 0, T.getD 0 0, false, false⟩, 9) := by
  unfold play2
  rw [if_pos (new_ok hT), if_pos (by show (0 : Int) = (T.length : Int); omega)]
end Go.Proofs.Ytohnddjijedfkaa
