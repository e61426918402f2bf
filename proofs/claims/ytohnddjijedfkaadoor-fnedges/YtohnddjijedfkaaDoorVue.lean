/- Pulses that are right, and the length of a tape: the specification and the program. -/
import Derived.Test.YtohnddjijedfkaaDoorE21
namespace Go.Proofs.YtohnddjijedfkaaDoor
open Go.ChangeShapes Go.WideShapes Go.ChangeAt Go.RowKit
set_option linter.unusedVariables false
set_option linter.unusedSimpArgs false

def fltP (P : List Int) : Int := if 4096 < P.length then 2 else if allP P = true then 0 else 4
theorem isPulse_impl (x : Int) (w : World) : Calls Tryd.prog 47 #[.int .i64 x] w fun e w' => e = .returned (.bool (inB x 1 1000)) ∧ w' = w := by
  go_enter Tryd.func47, Tryd.ntmps47
  go_wp2_with (go_at_call 30; refine (withinV_impl _ _ _ _).mono ?_; rintro e w' ⟨rfl, hww⟩; obtain rfl := hww.symm)
  go_ret
  exact ⟨rfl, rfl⟩
set_option maxRecDepth 100000 in
set_option maxHeartbeats 2000000 in
theorem pfault_impl (a : Option Addr) (cap : Nat) (P : List Int) (w : World) (h : RowR w (.slice a P.length cap) P) (hl : P.length ≤ 1048576) : Calls Tryd.prog 26 #[.slice a P.length cap] w fun e w' => e = .returned (.int .i64 (fltP P)) ∧ w' = w := by
  by_cases h1 : 4096 < P.length
  · have e : fltP P = 2 := if_pos h1
    rw [e]
    go_enter Tryd.func26, Tryd.ntmps26
    go_wp2
    go_ret
    exact ⟨rfl, rfl⟩
  have hno : Hid (∀ k, k < P.length → inB (P.getD k 0) 1 1000 = false → fltP P = 4) := fun k hk hb => by unfold fltP; rw [if_neg h1, show allP P = false from all_no hk hb]; rfl
  have hyes : Hid ((∀ k, k < P.length → inB (P.getD k 0) 1 1000 = true) → fltP P = 0) := fun hh => by unfold fltP; rw [if_neg h1, show allP P = true from all_yes hh]; rfl
  replace h := hid h
  obtain ⟨Q, hQ⟩ : ∃ Q, fltP P = Q := ⟨_, rfl⟩
  rw [hQ] at hno hyes ⊢
  clear hQ
  go_enter Tryd.func26, Tryd.ntmps26
  have h9 : decide ((4096 : Int) < (P.length : Int)) = false := decide_eq_false (by omega)
  have h5 : decide ((P.length : Int) ≤ 5000) = true := decide_eq_true (by omega)
  go_wp2
  go_loop [10] (fun i => ∃ k : Nat, k ≤ P.length ∧ i = .int .i64 k ∧ (∀ j, j < k → inB (P.getD j 0) 1 1000 = true)) (fun i => P.length - (intOf i).toNat)
  case atStart => exact ⟨0, by omega, rfl, fun j hj => by omega⟩
  case round =>
    obtain ⟨k, hk, rfl, hj⟩ := hrel
    by_cases hlt : k < P.length
    · obtain ⟨b, off, rfl, x1⟩ := h.out.at hlt
      cases hb : inB (P.getD k 0) 1 1000
      · have hE2 := hid (hno.out k hlt hb)
        clear hj hno hyes
        have hI := hid (fun W => isPulse_impl (P.getD k 0) W)
        rw [hb] at hI
        generalize P.getD k 0 = X at *
        go_wp2_with (go_at_call 47; refine (hI.out _).mono ?_; rintro e w' ⟨rfl, hww⟩; obtain rfl := hww.symm)
        go_ret
        exact ⟨by rw [hE2.out]; try rfl, rfl⟩
      · have hj2 : Hid (∀ j, j < k + 1 → inB (P.getD j 0) 1 1000 = true) := fun j hj1 => by
          by_cases e : j = k
          · rw [e]; exact hb
          · exact hj j (by omega)
        clear hj hno hyes
        have hI := hid (fun W => isPulse_impl (P.getD k 0) W)
        rw [hb] at hI
        clear hb
        generalize P.getD k 0 = X at *
        go_wp2_with (go_at_call 47; refine (hI.out _).mono ?_; rintro e w' ⟨rfl, hww⟩; obtain rfl := hww.symm)
        go_round
        case rel => exact ⟨k + 1, by omega, by go_num, hj2.out⟩
        case measure => simp [intOf] <;> omega
    · obtain rfl : k = P.length := by omega
      have hE2 := hid (hyes.out hj)
      clear hj hno hyes
      go_wp2
      go_ret
      exact ⟨by rw [hE2.out]; try rfl, rfl⟩
set_option maxRecDepth 100000 in
set_option maxHeartbeats 2000000 in
theorem lengthof_impl (a : Option Addr) (cap : Nat) (P : List Int) (w : World) (h : RowR w (.slice a P.length cap) P) (hl : P.length ≤ 1048576) : Calls Tryd.prog 7 #[.slice a P.length cap] w fun e w' => e = .returned (.tuple #[.int .i64 (len2 P).1, .int .i64 (len2 P).2]) ∧ w' = w := by
  have hOk := hid (pfault_impl a cap P w h hl)
  by_cases h1 : 4096 < P.length
  · have e : len2 P = (0, 2) := if_pos h1
    rw [e]
    rw [show fltP P = 2 from if_pos h1] at hOk
    go_enter Tryd.func7, Tryd.ntmps7
    go_wp2_with (go_at_call 26; refine hOk.out.mono ?_; rintro e w' ⟨rfl, hww⟩; obtain rfl := hww.symm)
    go_ret2
    exact ⟨rfl, rfl⟩
  cases hc : allP P
  · have e : len2 P = (0, 4) := by unfold len2; rw [if_neg h1, hc]; rfl
    rw [e]
    rw [show fltP P = 4 by unfold fltP; rw [if_neg h1, hc]; rfl] at hOk
    go_enter Tryd.func7, Tryd.ntmps7
    go_wp2_with (go_at_call 26; refine hOk.out.mono ?_; rintro e w' ⟨rfl, hww⟩; obtain rfl := hww.symm)
    go_ret2
    exact ⟨rfl, rfl⟩
  · have e : len2 P = (sumN P P.length, 0) := by unfold len2; rw [if_neg h1, hc]; rfl
    rw [e]
    rw [show fltP P = 0 by unfold fltP; rw [if_neg h1, hc]; rfl] at hOk
    have hbd : Hid (∀ k, k ≤ P.length → 0 ≤ sumN P k ∧ sumN P k ≤ 1000 * k) := sumN_bd hc
    have hat : Hid (∀ k, k < P.length → 1 ≤ P.getD k 0 ∧ P.getD k 0 ≤ 1000) := fun k hk => all_at hc hk
    have hE : Hid (∀ k, sumN P (k + 1) = sumN P k + P.getD k 0) := fun _ => rfl
    have h0 : Hid (sumN P 0 = 0) := rfl
    generalize hBN : sumN P = BN at *
    clear hBN hc e
    replace h := hid h
    go_enter Tryd.func7, Tryd.ntmps7
    go_wp2_with (go_at_call 26; refine hOk.out.mono ?_; rintro e w' ⟨rfl, hww⟩; obtain rfl := hww.symm)
    go_loop [5, 15] (fun n i => ∃ k : Nat, k ≤ P.length ∧ i = .int .i64 k ∧ n = .int .i64 (BN k)) (fun _ i => P.length - (intOf i).toNat)
    case atStart => exact ⟨0, by omega, rfl, by rw [h0.out]⟩
    case round =>
      obtain ⟨k, hk, rfl, rfl⟩ := hrel
      by_cases hlt : k < P.length
      · obtain ⟨b, off, rfl, x1⟩ := h.out.at hlt
        have hb1 := hbd.out k hk
        have hb2 := hat.out k hlt
        have hE2 := hid (hE.out k)
        generalize P.getD k 0 = X at *
        go_wp2
        go_round
        case rel => exact ⟨k + 1, by omega, by go_num, by rw [hE2.out]⟩
        case measure => simp [intOf] <;> omega
      · obtain rfl : k = P.length := by omega
        go_wp2
        go_ret2
        exact ⟨rfl, rfl⟩
end Go.Proofs.YtohnddjijedfkaaDoor
