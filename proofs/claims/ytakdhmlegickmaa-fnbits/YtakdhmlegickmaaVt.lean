/- A byte out of its bits, and the length of a tape: the specification and the program. -/
import Derived.Test.YtakdhmlegickmaaVa
import Derived.Test.YtakdhmlegickmaaIn
namespace Go.Proofs.Ytakdhmlegickmaa
open Go.ChangeShapes Go.WideShapes Go.ChangeAt Go.RowKit
set_option linter.unusedVariables false
set_option linter.unusedSimpArgs false

theorem RowR.at {w : World} {a : Option Addr} {cap : Nat} {P : List Int} (h : RowR w (.slice a P.length cap) P) {k : Nat} (hk : k < P.length) : ∃ b off, a = some ⟨b, off, none⟩ ∧ w.cell? ⟨b, off + k, none⟩ = some (.int .i64 (P.getD k 0)) := by
  obtain ⟨a', cap', e, h⟩ := h
  cases e
  rcases h with rfl | ⟨b, off, rfl, h⟩
  · exact absurd hk (by simp)
  · exact ⟨b, off, rfl, h k hk⟩
theorem withinV_impl (n a b : Int) (w : World) : Calls Try.prog 19 #[.int .i64 n, .int .i64 a, .int .i64 b] w fun e w' => e = .returned (.bool (inB n a b)) ∧ w' = w := by
  go_enter Try.func19, Try.ntmps19
  go_wp2
  all_goals go_ret
  all_goals exact ⟨ret_bool (by rw [Bool.eq_iff_iff]; simp [inB]; try omega), rfl⟩
set_option maxRecDepth 100000 in
set_option maxHeartbeats 2000000 in
theorem byteof_spec (a : Option Addr) (cap : Nat) (P : List Int) (w : World) (h : RowR w (.slice a P.length cap) P) (hl : P.length ≤ 1048576) : Calls Try.prog 14 #[.slice a P.length cap] w fun e w' => e = .returned (.tuple #[.int .i64 (byte2 P).1, .int .i64 (byte2 P).2]) ∧ w' = w := by
  by_cases h1 : 4096 < P.length
  · have e : byte2 P = (0, 2) := if_pos h1
    rw [e]
    go_enter Try.func14, Try.ntmps14
    go_wp2
    go_ret2
    exact ⟨rfl, rfl⟩
  by_cases h2 : P.length ≠ 8
  · have e : byte2 P = (0, 8) := by unfold byte2; rw [if_neg h1, if_pos h2]
    rw [e]
    have h2b : ((P.length : Int) == 8) = false := by rw [beq_eq_false_iff_ne]; omega
    go_enter Try.func14, Try.ntmps14
    go_wp2
    go_ret2
    exact ⟨rfl, rfl⟩
  have h8 : P.length = 8 := by omega
  have hno : Hid (∀ k, k < 8 → inB (P.getD k 0) 0 1 = false → byte2 P = (0, 4)) := fun k hk hb => by unfold byte2; rw [if_neg h1, if_neg h2, show all01 P = false from all_no (by omega) hb]; rfl
  have hyes : Hid ((∀ k, k < 8 → inB (P.getD k 0) 0 1 = true) → byte2 P = (binN P 8, 0)) := fun hh => by unfold byte2; rw [if_neg h1, if_neg h2, show all01 P = true from all_yes (fun k hk => hh k (by omega))]; rfl
  have hbd : Hid (∀ k, k ≤ 8 → (∀ j, j < k → inB (P.getD j 0) 0 1 = true) → 0 ≤ binN P k ∧ binN P k < 256) := fun k => by
    induction k with
    | zero => intro _ _; exact ⟨Int.le_refl _, by show (0 : Int) < 256; omega⟩
    | succ k ih =>
      intro hk hh
      have key : ∀ m, m ≤ 8 → (∀ j, j < m → inB (P.getD j 0) 0 1 = true) → 0 ≤ binN P m ∧ binN P m < 2 ^ m := fun m => by
        induction m with
        | zero => intro _ _; exact ⟨Int.le_refl _, by show (0 : Int) < 2 ^ 0; decide⟩
        | succ m ihm =>
          intro hm hj
          have i1 := ihm (by omega) (fun j h => hj j (by omega))
          have i2 := hj m (by omega)
          simp only [inB, decide_eq_true_eq] at i2
          have e : binN P (m + 1) = 2 * binN P m + P.getD m 0 := rfl
          rw [e, Int.pow_succ]
          omega
      have i3 := key (k + 1) hk hh
      have i4 : (2 : Int) ^ (k + 1) ≤ 2 ^ 8 := by exact_mod_cast Nat.pow_le_pow_right (by omega) hk
      refine ⟨i3.1, Int.lt_of_lt_of_le i3.2 ?_⟩
      have : (2 : Int) ^ 8 = 256 := by decide
      omega
  have hE : Hid (∀ k, binN P (k + 1) = 2 * binN P k + P.getD k 0) := fun _ => rfl
  replace h := hid h
  obtain ⟨Q, hQ⟩ : ∃ Q, byte2 P = Q := ⟨_, rfl⟩
  rw [hQ] at hno hyes ⊢
  clear hQ h1 h2
  have h0 : Hid (binN P 0 = 0) := rfl
  generalize hBN : binN P = BN at *
  clear hBN
  go_enter Try.func14, Try.ntmps14
  have h8b : ((P.length : Int) == 8) = true := by rw [beq_iff_eq]; omega
  have h9 : decide ((4096 : Int) < (P.length : Int)) = false := decide_eq_false (by omega)
  have h10 : ((P.length : Int) != 8) = false := by rw [bne, h8b]; rfl
  replace h8 := hid h8
  go_wp2
  go_loop [4, 5] (fun n i => ∃ k : Nat, k ≤ 8 ∧ i = .int .i64 k ∧ n = .int .i64 (BN k) ∧ (∀ j, j < k → inB (P.getD j 0) 0 1 = true)) (fun _ i => 8 - (intOf i).toNat)
  case atStart => exact ⟨0, by omega, rfl, by rw [h0.out], fun j hj => by omega⟩
  case round =>
    obtain ⟨k, hk, rfl, rfl, hj⟩ := hrel
    by_cases hlt : k < 8
    · obtain ⟨b, off, rfl, x1⟩ := h.out.at (show k < P.length by have := h8.out; omega)
      have hlk : (k : Int) < (P.length : Int) := by have := h8.out; omega
      have hlk2 : k < P.length := by have := h8.out; omega
      cases hb : inB (P.getD k 0) 0 1
      · have hE2 := hid (hno.out k hlt hb)
        clear hj hno hyes hbd
        have hI := hid (fun W => in_spec (P.getD k 0) 0 1 W)
        rw [hb] at hI
        generalize P.getD k 0 = X at *
        go_wp2_with (go_at_call 21; refine (hI.out _).mono ?_; rintro e w' ⟨rfl, hww⟩; obtain rfl := hww.symm)
        go_ret2
        exact ⟨by rw [hE2.out]; rfl, rfl⟩
      · have hj2 : Hid (∀ j, j < k + 1 → inB (P.getD j 0) 0 1 = true) := fun j hj1 => by
          by_cases e : j = k
          · rw [e]; exact hb
          · exact hj j (by omega)
        have hb1 := hbd.out k hk hj
        have hb2 : 0 ≤ P.getD k 0 ∧ P.getD k 0 ≤ 1 := by simpa [inB] using hb
        have hE2 := hid (hE.out k)
        clear hj hno hyes hbd
        have hI := hid (fun W => in_spec (P.getD k 0) 0 1 W)
        rw [hb] at hI
        clear hb
        generalize P.getD k 0 = X at *
        go_wp2_with (go_at_call 21; refine (hI.out _).mono ?_; rintro e w' ⟨rfl, hww⟩; obtain rfl := hww.symm)
        go_round
        case rel => exact ⟨k + 1, by omega, by go_num, by rw [hE2.out], hj2.out⟩
        case measure => simp [intOf] <;> omega
    · obtain rfl : k = 8 := by omega
      have hex : decide ((8 : Int) < (P.length : Int)) = false := decide_eq_false (by have := h8.out; omega)
      have hE2 := hid (hyes.out hj)
      clear hj hno hyes hbd
      go_wp2
      go_ret2
      exact ⟨by rw [hE2.out]; rfl, rfl⟩
set_option maxRecDepth 100000 in
set_option maxHeartbeats 2000000 in
theorem byteof_impl (a : Option Addr) (cap : Nat) (P : List Int) (w : World) (h : RowR w (.slice a P.length cap) P) (hl : P.length ≤ 1048576) : Calls Try.prog 9 #[.slice a P.length cap] w fun e w' => e = .returned (.tuple #[.int .i64 (byte2 P).1, .int .i64 (byte2 P).2]) ∧ w' = w := by
  by_cases h1 : 4096 < P.length
  · have e : byte2 P = (0, 2) := if_pos h1
    rw [e]
    go_enter Try.func9, Try.ntmps9
    go_wp2
    go_ret2
    exact ⟨rfl, rfl⟩
  by_cases h2 : P.length ≠ 8
  · have e : byte2 P = (0, 8) := by unfold byte2; rw [if_neg h1, if_pos h2]
    rw [e]
    have h2b : ((P.length : Int) == 8) = false := by rw [beq_eq_false_iff_ne]; omega
    go_enter Try.func9, Try.ntmps9
    go_wp2
    go_ret2
    exact ⟨rfl, rfl⟩
  have h8 : P.length = 8 := by omega
  have hno : Hid (∀ k, k < 8 → inB (P.getD k 0) 0 1 = false → byte2 P = (0, 4)) := fun k hk hb => by unfold byte2; rw [if_neg h1, if_neg h2, show all01 P = false from all_no (by omega) hb]; rfl
  have hyes : Hid ((∀ k, k < 8 → inB (P.getD k 0) 0 1 = true) → byte2 P = (binN P 8, 0)) := fun hh => by unfold byte2; rw [if_neg h1, if_neg h2, show all01 P = true from all_yes (fun k hk => hh k (by omega))]; rfl
  have hbd : Hid (∀ k, k ≤ 8 → (∀ j, j < k → inB (P.getD j 0) 0 1 = true) → 0 ≤ binN P k ∧ binN P k < 256) := fun k => by
    induction k with
    | zero => intro _ _; exact ⟨Int.le_refl _, by show (0 : Int) < 256; omega⟩
    | succ k ih =>
      intro hk hh
      have key : ∀ m, m ≤ 8 → (∀ j, j < m → inB (P.getD j 0) 0 1 = true) → 0 ≤ binN P m ∧ binN P m < 2 ^ m := fun m => by
        induction m with
        | zero => intro _ _; exact ⟨Int.le_refl _, by show (0 : Int) < 2 ^ 0; decide⟩
        | succ m ihm =>
          intro hm hj
          have i1 := ihm (by omega) (fun j h => hj j (by omega))
          have i2 := hj m (by omega)
          simp only [inB, decide_eq_true_eq] at i2
          have e : binN P (m + 1) = 2 * binN P m + P.getD m 0 := rfl
          rw [e, Int.pow_succ]
          omega
      have i3 := key (k + 1) hk hh
      have i4 : (2 : Int) ^ (k + 1) ≤ 2 ^ 8 := by exact_mod_cast Nat.pow_le_pow_right (by omega) hk
      refine ⟨i3.1, Int.lt_of_lt_of_le i3.2 ?_⟩
      have : (2 : Int) ^ 8 = 256 := by decide
      omega
  have hE : Hid (∀ k, binN P (k + 1) = 2 * binN P k + P.getD k 0) := fun _ => rfl
  replace h := hid h
  obtain ⟨Q, hQ⟩ : ∃ Q, byte2 P = Q := ⟨_, rfl⟩
  rw [hQ] at hno hyes ⊢
  clear hQ h1 h2
  have h0 : Hid (binN P 0 = 0) := rfl
  generalize hBN : binN P = BN at *
  clear hBN
  go_enter Try.func9, Try.ntmps9
  have h8b : ((P.length : Int) == 8) = true := by rw [beq_iff_eq]; omega
  have h9 : decide ((4096 : Int) < (P.length : Int)) = false := decide_eq_false (by omega)
  have h10 : ((P.length : Int) != 8) = false := by rw [bne, h8b]; rfl
  replace h8 := hid h8
  go_wp2
  go_loop [4, 15] (fun n i => ∃ k : Nat, k ≤ 8 ∧ i = .int .i64 k ∧ n = .int .i64 (BN k) ∧ (∀ j, j < k → inB (P.getD j 0) 0 1 = true)) (fun _ i => 8 - (intOf i).toNat)
  case atStart => exact ⟨0, by omega, rfl, by rw [h0.out], fun j hj => by omega⟩
  case round =>
    obtain ⟨k, hk, rfl, rfl, hj⟩ := hrel
    by_cases hlt : k < 8
    · obtain ⟨b, off, rfl, x1⟩ := h.out.at (show k < P.length by have := h8.out; omega)
      have hlk : (k : Int) < (P.length : Int) := by have := h8.out; omega
      have hlk2 : k < P.length := by have := h8.out; omega
      cases hb : inB (P.getD k 0) 0 1
      · have hE2 := hid (hno.out k hlt hb)
        clear hj hno hyes hbd
        have hI := hid (fun W => withinV_impl (P.getD k 0) 0 1 W)
        rw [hb] at hI
        generalize P.getD k 0 = X at *
        go_wp2_with (go_at_call 19; refine (hI.out _).mono ?_; rintro e w' ⟨rfl, hww⟩; obtain rfl := hww.symm)
        go_ret2
        exact ⟨by rw [hE2.out]; rfl, rfl⟩
      · have hj2 : Hid (∀ j, j < k + 1 → inB (P.getD j 0) 0 1 = true) := fun j hj1 => by
          by_cases e : j = k
          · rw [e]; exact hb
          · exact hj j (by omega)
        have hb1 := hbd.out k hk hj
        have hb2 : 0 ≤ P.getD k 0 ∧ P.getD k 0 ≤ 1 := by simpa [inB] using hb
        have hE2 := hid (hE.out k)
        clear hj hno hyes hbd
        have hI := hid (fun W => withinV_impl (P.getD k 0) 0 1 W)
        rw [hb] at hI
        clear hb
        generalize P.getD k 0 = X at *
        go_wp2_with (go_at_call 19; refine (hI.out _).mono ?_; rintro e w' ⟨rfl, hww⟩; obtain rfl := hww.symm)
        go_round
        case rel => exact ⟨k + 1, by omega, by go_num, by rw [hE2.out], hj2.out⟩
        case measure => simp [intOf] <;> omega
    · obtain rfl : k = 8 := by omega
      have hex : decide ((8 : Int) < (P.length : Int)) = false := decide_eq_false (by have := h8.out; omega)
      have hE2 := hid (hyes.out hj)
      clear hj hno hyes hbd
      go_wp2
      go_ret2
      exact ⟨by rw [hE2.out]; rfl, rfl⟩
end Go.Proofs.Ytakdhmlegickmaa
