/- What the law of decks asks, as plain numbers. -/
import Derived.Test.YtohnddjijedfkaaDzk
namespace Go.Proofs.Ytohnddjijedfkaa
open Go.ChangeShapes Go.WideShapes Go.ChangeAt Go.RowKit
set_option linter.unusedVariables false
set_option linter.unusedSimpArgs false

/-- as many edges as pulses passed -/
theorem runD_idx : ∀ (f : Nat) (d : Dk) (t e : Int), (runD f d t e).1.index - d.index = (runD f d t e).2 - e := by
  intro f
  induction f with
  | zero => intro d t e; show d.index - d.index = e - e; omega
  | succ f ih =>
    intro d t e
    unfold runD
    by_cases hp : d.plays = true ∧ 0 < t
    · rw [if_pos hp]
      by_cases hl : t < d.left
      · rw [if_pos hl]
        show d.index - d.index = e - e
        omega
      · rw [if_neg hl]
        have := ih d.edge (t - d.left) (e + 1)
        have e2 : d.edge.index = d.index + 1 := rfl
        omega
    · rw [if_neg hp]
      show d.index - d.index = e - e
      omega
theorem deck_facts {T : List Int} {ix lf : Int} {lv pl : Bool} (hok : (Dk.mk T ix lf lv pl).ok = true) {n k : Int} (hn : 0 ≤ n) (hn2 : n ≤ 1000) (hk : 0 ≤ k) (hk2 : k ≤ 1000) :
    ∃ (x : Int × Int × Bool × Bool) (E1 : Int) (z : Int × Int × Bool × Bool) (E2 E3 C : Int),
      runV ⟨T, ix, lf, lv, pl⟩ n = ((⟨T, x.1, x.2.1, x.2.2.1, x.2.2.2⟩, E1), 0) ∧ runV ⟨T, x.1, x.2.1, x.2.2.1, x.2.2.2⟩ k = ((⟨T, z.1, z.2.1, z.2.2.1, z.2.2.2⟩, E2), 0) ∧
      runV ⟨T, ix, lf, lv, pl⟩ (n + k) = ((⟨T, z.1, z.2.1, z.2.2.1, z.2.2.2⟩, E3), 0) ∧ stop2 ⟨T, ix, lf, lv, pl⟩ = (⟨T, ix, lf, lv, false⟩, C) ∧ runV ⟨T, ix, lf, lv, false⟩ k = ((⟨T, ix, lf, lv, false⟩, 0), 0) ∧
      E1 + E2 = E3 ∧ (0 ≤ E1 ∧ E1 ≤ 5000 ∧ 0 ≤ E2 ∧ E2 ≤ 5000) ∧ (Dk.mk T z.1 z.2.1 z.2.2.1 z.2.2.2).same ⟨T, z.1, z.2.1, z.2.2.1, z.2.2.2⟩ = true ∧ (Dk.mk T ix lf lv false).same ⟨T, ix, lf, lv, false⟩ = true ∧
      (Dk.mk T z.1 z.2.1 z.2.2.1 z.2.2.2).ok = true ∧ (C == 0) = pl := by
  have go : ∀ {d : Dk} {t : Int}, d.ok = true → 0 ≤ t → t ≤ 100000 → runV d t = (run2 d t, 0) := fun h h0 h1 => by
    unfold runV
    rw [if_pos h, if_pos (in_yes h0 h1)]
  have hl := ok_lens hok
  have r1 := runD_ok (T.length + 1) ⟨T, ix, lf, lv, pl⟩ n 0 hok
  have i1 := runD_idx (T.length + 1) ⟨T, ix, lf, lv, pl⟩ n 0
  have tw := runD_two (T.length + 1) ⟨T, ix, lf, lv, pl⟩ n k hok (by show (T.length : Int) - ix < _; have := hl.2.1; omega) hn hk
  obtain ⟨⟨⟨P1, I1, L1, V1, Q1⟩, E1⟩, h1⟩ : ∃ r, runD (T.length + 1) ⟨T, ix, lf, lv, pl⟩ n 0 = r := ⟨_, rfl⟩
  rw [h1] at r1 i1 tw
  obtain rfl : P1 = T := r1.2.1
  have hx : (Dk.mk P1 I1 L1 V1 Q1).ok = true := r1.1
  have hlx := ok_lens hx
  have r2 := runD_ok (P1.length + 1) ⟨P1, I1, L1, V1, Q1⟩ k 0 hx
  have i2 := runD_idx (P1.length + 1) ⟨P1, I1, L1, V1, Q1⟩ k 0
  obtain ⟨⟨⟨P2, I2, L2, V2, Q2⟩, E2⟩, h2⟩ : ∃ r, runD (P1.length + 1) ⟨P1, I1, L1, V1, Q1⟩ k 0 = r := ⟨_, rfl⟩
  rw [h2] at r2 i2
  obtain rfl : P2 = P1 := r2.2.1
  have hz : (Dk.mk P2 I2 L2 V2 Q2).ok = true := r2.1
  have hlz := ok_lens hz
  have hs : (Dk.mk P2 ix lf lv false).ok = true := by
    obtain ⟨k1, k2, k3⟩ := (Dk.ok_iff _).1 hok
    refine (Dk.ok_iff _).2 ⟨k1, k2, ?_⟩
    rcases k3 with ⟨m1, m2, m3⟩ | k3
    · exact .inl ⟨m1, m2, rfl⟩
    · exact .inr k3
  have tw2 : runD (P2.length + 1) ⟨P2, ix, lf, lv, pl⟩ (n + k) 0 = (⟨P2, I2, L2, V2, Q2⟩, E1 + E2) := by
    rw [tw]
    show ((runD (P2.length + 1) ⟨P2, I1, L1, V1, Q1⟩ k 0).1, E1 + (runD (P2.length + 1) ⟨P2, I1, L1, V1, Q1⟩ k 0).2) = _
    rw [h2]
  have hix : (P2.length : Int) ≤ 5000 := by have := hl.1; omega
  have i1' : I1 - ix = E1 - 0 := i1
  have i2' : I2 - I1 = E2 - 0 := i2
  have hle1 : ix ≤ I1 := r1.2.2
  have hle2 : I1 ≤ I2 := r2.2.2
  refine ⟨(I1, L1, V1, Q1), E1, (I2, L2, V2, Q2), E2, E1 + E2, if pl = true then 0 else 13, ?_, ?_, ?_, ?_, ?_, rfl, ?_, same_self hz, same_self hs, hz, ?_⟩
  · rw [go hok hn (by omega)]
    show (runD (P2.length + 1) _ n 0, (0 : Int)) = _
    rw [h1]
  · rw [go hx hk (by omega)]
    show (runD (P2.length + 1) _ k 0, (0 : Int)) = _
    rw [h2]
  · rw [go hok (by omega) (by omega)]
    show (runD (P2.length + 1) _ (n + k) 0, (0 : Int)) = _
    rw [tw2]
  · unfold stop2
    rw [if_pos hok]
    cases pl
    · rfl
    · rfl
  · rw [go hs hk (by omega)]
    show (runD (P2.length + 1) _ k 0, (0 : Int)) = _
    rw [runD_stop (by simp)]
  · have a1 := hl.2.1
    have a2 := hlz.2.2.1
    omega
  · cases pl <;> rfl
end Go.Proofs.Ytohnddjijedfkaa
