/- Decks: the specification. -/
import Derived.Test.YtohnddjijedfkaaDak
import Derived.Test.YtohnddjijedfkaaK21
import Derived.Test.YtohnddjijedfkaaVbk
import Derived.Deep.Onto
import Derived.BigQuiet
namespace Go.Proofs.Ytohnddjijedfkaa
open Go.ChangeShapes Go.WideShapes Go.ChangeAt Go.RowKit
set_option linter.unusedVariables false
set_option linter.unusedSimpArgs false

abbrev dkA (v : Value) (d : Dk) : Array Value := #[v, .int .i64 d.index, .int .i64 d.left, .bool d.level, .bool d.plays]
abbrev dkV (v : Value) (d : Dk) : Value := .agg (dkA v d)
set_option maxRecDepth 100000 in
set_option maxHeartbeats 2000000 in
theorem pok_specD (a : Option Addr) (cap : Nat) (P : List Int) (w : World) (h : RowR w (.slice a P.length cap) P) (hl : P.length ≤ 1048576) : Calls Try.prog 35 #[.slice a P.length cap] w fun e w' => e = .returned (.bool (okPl P)) ∧ w' = w := by
  have hno : Hid (∀ k, k < P.length → inB (P.getD k 0) 1 1000 = false → okPl P = false) := fun k hk hb => by unfold okPl; rw [show allP P = false from all_no hk hb]; rfl
  have hyes : Hid ((∀ k, k < P.length → inB (P.getD k 0) 1 1000 = true) → okPl P = decide ((P.length : Int) ≤ 5000)) := fun hh => by unfold okPl; rw [show allP P = true from all_yes hh, Bool.true_and, Bool.eq_iff_iff]; simp; omega
  replace h := hid h
  obtain ⟨Q, hQ⟩ : ∃ Q, okPl P = Q := ⟨_, rfl⟩
  rw [hQ] at hno hyes ⊢
  clear hQ
  go_enter Try.func35, Try.ntmps35
  go_wp2
  go_loop [3] (fun i => ∃ k : Nat, k ≤ P.length ∧ i = .int .i64 k ∧ (∀ j, j < k → inB (P.getD j 0) 1 1000 = true)) (fun i => P.length - (intOf i).toNat)
  case atStart => exact ⟨0, by omega, rfl, fun j hj => by omega⟩
  case round =>
    obtain ⟨k, hk, rfl, hj⟩ := hrel
    by_cases hlt : k < P.length
    · obtain ⟨b, off, rfl, x1⟩ := h.out.at hlt
      cases hb : inB (P.getD k 0) 1 1000
      · have hE2 := hid (hno.out k hlt hb)
        clear hj hno hyes
        have hI := hid (fun W => in_spec (P.getD k 0) 1 1000 W)
        rw [hb] at hI
        generalize P.getD k 0 = X at *
        go_wp2_with (go_at_call 29; refine (hI.out _).mono ?_; rintro e w' ⟨rfl, hww⟩; obtain rfl := hww.symm)
        go_ret
        exact ⟨by rw [hE2.out]; try rfl, rfl⟩
      · have hj2 : Hid (∀ j, j < k + 1 → inB (P.getD j 0) 1 1000 = true) := fun j hj1 => by
          by_cases e : j = k
          · rw [e]; exact hb
          · exact hj j (by omega)
        clear hj hno hyes
        have hI := hid (fun W => in_spec (P.getD k 0) 1 1000 W)
        rw [hb] at hI
        clear hb
        generalize P.getD k 0 = X at *
        go_wp2_with (go_at_call 29; refine (hI.out _).mono ?_; rintro e w' ⟨rfl, hww⟩; obtain rfl := hww.symm)
        go_round
        case rel => exact ⟨k + 1, by omega, by go_num, hj2.out⟩
        case measure => simp [intOf] <;> omega
    · obtain rfl : k = P.length := by omega
      have hE2 := hid (hyes.out hj)
      clear hj hno hyes
      go_wp2
      go_ret
      exact ⟨by rw [hE2.out]; try rfl, rfl⟩
theorem row_pulse {w : World} {a : Option Addr} {cap : Nat} {d : Dk} (h : RowR w (.slice a d.pulses.length cap) d.pulses) {i : Int} (h0 : 0 ≤ i) (h1 : i < d.len) : ∃ (b off k : Nat), a = some ⟨b, off, none⟩ ∧ i = (k : Int) ∧ k < d.pulses.length ∧ w.cell? ⟨b, off + k, none⟩ = some (.int .i64 (d.pulse i)) := by
  unfold Dk.len at h1
  obtain ⟨b, off, ha, hc⟩ := h.at (k := i.toNat) (by omega)
  exact ⟨b, off, i.toNat, ha, by omega, by omega, hc⟩
end Go.Proofs.Ytohnddjijedfkaa
