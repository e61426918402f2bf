/- A deck runs: the specification. -/
import Derived.Test.YtohnddjijedfkaaDoorDfn
namespace Go.Proofs.YtohnddjijedfkaaDoor
open Go.ChangeShapes Go.WideShapes Go.ChangeAt Go.RowKit
set_option linter.unusedVariables false
set_option linter.unusedSimpArgs false

theorem runD_part {P : List Int} {ix lf : Int} {lv : Bool} {t e : Int} (h : (Dk.mk P ix lf lv true).ok = true) (ht : 0 < t) (hl : t < lf) :
    runD (P.length + 1) ⟨P, ix, lf, lv, true⟩ t e = runD (P.length + 1) ⟨P, ix, lf - t, lv, true⟩ 0 e ∧ (Dk.mk P ix (lf - t) lv true).ok = true := by
  have e1 : runD (P.length + 1) ⟨P, ix, lf, lv, true⟩ t e = (⟨P, ix, lf - t, lv, true⟩, e) := by
    unfold runD
    rw [if_pos ⟨rfl, ht⟩, if_pos hl]
  have e2 : runD (P.length + 1) ⟨P, ix, lf - t, lv, true⟩ 0 e = (⟨P, ix, lf - t, lv, true⟩, e) := by
    unfold runD
    rw [if_neg (fun h => by have := h.2; omega)]
  refine ⟨e1.trans e2.symm, ?_⟩
  have := (runD_ok (P.length + 1) ⟨P, ix, lf, lv, true⟩ t e h).1
  rw [e1] at this
  exact this
theorem runD_edge {P : List Int} {ix lf : Int} {lv : Bool} {t e : Int} (h : (Dk.mk P ix lf lv true).ok = true) (ht : 0 < t) (hl : ¬ t < lf) :
    runD (P.length + 1) ⟨P, ix, lf, lv, true⟩ t e = runD (P.length + 1) (Dk.mk P ix lf lv true).edge (t - lf) (e + 1) := by
  obtain ⟨k1, k2, k3, k4, k5⟩ := Dk.edge_ok h rfl
  have hix := ((Dk.ok_iff _).1 h).2.1
  have e1 : runD (P.length + 1) ⟨P, ix, lf, lv, true⟩ t e = runD P.length (Dk.mk P ix lf lv true).edge (t - lf) (e + 1) := by
    show (if true = true ∧ 0 < t then _ else _) = _
    rw [if_pos ⟨rfl, ht⟩, if_neg hl]
  rw [e1]
  refine runD_more _ _ _ _ _ k1 ?_ ?_
  · show (P.length : Int) - (ix + 1) < (P.length : Int)
    have : 0 ≤ ix := hix.1
    omega
  · show (P.length : Int) - (ix + 1) < ((P.length + 1 : Nat) : Int)
    have : 0 ≤ ix := hix.1
    omega
theorem runD_stop {P : List Int} {ix lf : Int} {lv pl : Bool} {t e : Int} (h : ¬ (pl = true ∧ 0 < t)) : runD (P.length + 1) ⟨P, ix, lf, lv, pl⟩ t e = (⟨P, ix, lf, lv, pl⟩, e) := by
  unfold runD
  rw [if_neg h]
theorem ok_lens {P : List Int} {ix lf : Int} {lv pl : Bool} (h : (Dk.mk P ix lf lv pl).ok = true) : P.length ≤ 5000 ∧ 0 ≤ ix ∧ ix ≤ (P.length : Int) ∧ 0 ≤ lf ∧ lf ≤ 1000 ∧ (pl = true → ix < (P.length : Int) ∧ 1 ≤ lf) := by
  obtain ⟨h1, h2, h3⟩ := (Dk.ok_iff _).1 h
  have hn := ((okPl_iff _).1 h1).2
  refine ⟨hn, h2.1, h2.2, ?_⟩
  rcases h3 with ⟨k1, k2, k3⟩ | ⟨k1, k2, k3⟩
  · have k2' : lf = 0 := k2
    exact ⟨by omega, by omega, fun e => by rw [show pl = false from k3] at e; cases e⟩
  · have hlt : ix < (P.length : Int) := by
      have : ix ≤ (P.length : Int) := h2.2
      have : ¬ ix = (P.length : Int) := k1
      omega
    have hb := Dk.pulse_bd h1 h2.1 hlt
    have k2' : 1 ≤ lf := k2
    have : lf ≤ (Dk.mk P ix lf lv pl).pulse ix := k3
    have hb2 : (Dk.mk P ix lf lv pl).pulse ix ≤ 1000 := hb.2
    exact ⟨by omega, by omega, fun _ => ⟨hlt, k2'⟩⟩
end Go.Proofs.YtohnddjijedfkaaDoor
