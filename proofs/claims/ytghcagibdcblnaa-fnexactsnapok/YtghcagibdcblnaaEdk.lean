/- The bits of a snapshot: a list of truths as a number. -/
import Derived.Test.YtghcagibdcblnaaEck
import Derived.Test.YtghcagibdcblnaaBtk
namespace Go.Proofs.Ytghcagibdcblnaa
open Go.ChangeShapes Go.WideShapes Go.ChangeAt Go.RowKit
set_option linter.unusedVariables false
set_option linter.unusedSimpArgs false

def bitsN (f : Nat → Bool) : Nat → Nat
  | 0 => 0
  | k + 1 => bitsN f k + (if f k = true then 2 ^ k else 0)
theorem bitsN_lt (f : Nat → Bool) (k : Nat) : bitsN f k < 2 ^ k := by
  induction k with
  | zero => exact Nat.one_pos
  | succ k ih =>
    have e : 2 ^ (k + 1) = 2 ^ k + 2 ^ k := by rw [Nat.pow_succ]; omega
    unfold bitsN
    split <;> omega
theorem lor_pow {n k : Nat} (h : n < 2 ^ k) : Nat.lor n (2 ^ k) = n + 2 ^ k := by
  have := Nat.two_pow_add_eq_or_of_lt h 1
  rw [Nat.mul_one, Nat.add_comm] at this
  rw [this]
  exact Nat.or_comm _ _
/-- one more bit, as the program counts -/
theorem bits_or {n k : Nat} (h : n < 2 ^ k) (hk : k < 8) : bits .or .i64 (n : Int) ((2 ^ k : Nat) : Int) = ((n + 2 ^ k : Nat) : Int) := by
  have h8 : 2 ^ k ≤ 2 ^ 8 := Nat.pow_le_pow_right (by omega) (by omega)
  rw [bOr n (2 ^ k) (by omega) (by omega), lor_pow h]
theorem bits_or0 {n : Nat} (h : n < 256) : bits .or .i64 (n : Int) 0 = (n : Int) := by
  have := bOr n 0 (by omega) (by omega)
  rw [show ((0 : Nat) : Int) = 0 from rfl] at this
  rw [this]
  congr 1
  exact Nat.or_zero n
theorem bitE_spec (b : Bool) (w : World) : Calls Try.prog 55 #[.bool b] w fun e w' => e = .returned (.int .i64 (if b = true then 1 else 0)) ∧ w' = w := by
  cases b
  all_goals
    go_enter Try.func55, Try.ntmps55
    go_wp2
    go_ret
    exact ⟨rfl, rfl⟩
set_option maxRecDepth 100000 in
set_option maxHeartbeats 1000000 in
theorem bits13_spec (f : Nat → Bool) (n : Nat) (g : Nat) (w : World) (hn : n ≤ 5) (hc : ∀ i, i < n → w.cell? ⟨g, i, none⟩ = some (.bool (f i))) :
    Calls Try.prog 42 #[.slice (some ⟨g, 0, none⟩) n n] w fun e w' => e = .returned (.int .i64 (bitsN f n : Nat)) ∧ w' = w := by
  replace hc := hid hc
  have hlt := hid (bitsN_lt f)
  have hS : Hid (∀ k, bitsN f (k + 1) = bitsN f k + (if f k = true then 2 ^ k else 0)) := fun k => rfl
  have h0 : Hid (bitsN f 0 = 0) := rfl
  generalize bitsN f = B at *
  go_enter Try.func42, Try.ntmps42
  go_wp2
  go_loop [3, 4] (fun s i => ∃ k : Nat, k ≤ n ∧ i = .int .i64 k ∧ s = .int .i64 (B k : Nat)) (fun s i => n - (intOf i).toNat)
  case atStart => exact ⟨0, by omega, rfl, by rw [h0.out]; rfl⟩
  case round =>
    obtain ⟨k, hk, rfl, rfl⟩ := hrel
    by_cases hkn : k < n
    · have hx := hc.out k hkn
      have hB1 := hS.out k
      have hB2 := hlt.out k
      have o1 := bits_or hB2 (by omega)
      have o2 := bits_or0 (n := B k) (by have : 2 ^ k ≤ 2 ^ 8 := Nat.pow_le_pow_right (by omega) (by omega); omega)
      clear hc hlt hS h0
      have hk5 : k = 0 ∨ k = 1 ∨ k = 2 ∨ k = 3 ∨ k = 4 := by omega
      cases hf : f k
      · rw [hf] at hx
        rw [hf, if_neg (by decide)] at hB1
        replace hB1 := hid hB1
        clear o1 hB2
        rcases hk5 with rfl | rfl | rfl | rfl | rfl
        · have hv : B 1 = B 0 + 0 := hB1.out
          go_wp2_with (go_at_call 55; refine (bitE_spec _ _).mono ?_; rintro e w' ⟨rfl, hww⟩; obtain rfl := hww.symm)
          refine ⟨⟨1, by omega, rfl, by rw [hv]; rfl⟩, by simp only [intOf]; omega⟩
        · have hv : B 2 = B 1 + 0 := hB1.out
          go_wp2_with (go_at_call 55; refine (bitE_spec _ _).mono ?_; rintro e w' ⟨rfl, hww⟩; obtain rfl := hww.symm)
          refine ⟨⟨2, by omega, rfl, by rw [hv]; rfl⟩, by simp only [intOf]; omega⟩
        · have hv : B 3 = B 2 + 0 := hB1.out
          go_wp2_with (go_at_call 55; refine (bitE_spec _ _).mono ?_; rintro e w' ⟨rfl, hww⟩; obtain rfl := hww.symm)
          refine ⟨⟨3, by omega, rfl, by rw [hv]; rfl⟩, by simp only [intOf]; omega⟩
        · have hv : B 4 = B 3 + 0 := hB1.out
          go_wp2_with (go_at_call 55; refine (bitE_spec _ _).mono ?_; rintro e w' ⟨rfl, hww⟩; obtain rfl := hww.symm)
          refine ⟨⟨4, by omega, rfl, by rw [hv]; rfl⟩, by simp only [intOf]; omega⟩
        · have hv : B 5 = B 4 + 0 := hB1.out
          go_wp2_with (go_at_call 55; refine (bitE_spec _ _).mono ?_; rintro e w' ⟨rfl, hww⟩; obtain rfl := hww.symm)
          refine ⟨⟨5, by omega, rfl, by rw [hv]; rfl⟩, by simp only [intOf]; omega⟩
      · rw [hf] at hx
        rw [hf, if_pos rfl] at hB1
        replace hB1 := hid hB1
        clear o2 hB2
        rcases hk5 with rfl | rfl | rfl | rfl | rfl
        · have hv : B 1 = B 0 + 1 := hB1.out
          have o3 : bits .or .i64 (B 0 : Int) 1 = ((B 0 + 1 : Nat) : Int) := o1
          clear o1
          go_wp2_with (go_at_call 55; refine (bitE_spec _ _).mono ?_; rintro e w' ⟨rfl, hww⟩; obtain rfl := hww.symm)
          refine ⟨⟨1, by omega, rfl, by rw [hv]; rfl⟩, by simp only [intOf]; omega⟩
        · have hv : B 2 = B 1 + 2 := hB1.out
          have o3 : bits .or .i64 (B 1 : Int) 2 = ((B 1 + 2 : Nat) : Int) := o1
          clear o1
          go_wp2_with (go_at_call 55; refine (bitE_spec _ _).mono ?_; rintro e w' ⟨rfl, hww⟩; obtain rfl := hww.symm)
          refine ⟨⟨2, by omega, rfl, by rw [hv]; rfl⟩, by simp only [intOf]; omega⟩
        · have hv : B 3 = B 2 + 4 := hB1.out
          have o3 : bits .or .i64 (B 2 : Int) 4 = ((B 2 + 4 : Nat) : Int) := o1
          clear o1
          go_wp2_with (go_at_call 55; refine (bitE_spec _ _).mono ?_; rintro e w' ⟨rfl, hww⟩; obtain rfl := hww.symm)
          refine ⟨⟨3, by omega, rfl, by rw [hv]; rfl⟩, by simp only [intOf]; omega⟩
        · have hv : B 4 = B 3 + 8 := hB1.out
          have o3 : bits .or .i64 (B 3 : Int) 8 = ((B 3 + 8 : Nat) : Int) := o1
          clear o1
          go_wp2_with (go_at_call 55; refine (bitE_spec _ _).mono ?_; rintro e w' ⟨rfl, hww⟩; obtain rfl := hww.symm)
          refine ⟨⟨4, by omega, rfl, by rw [hv]; rfl⟩, by simp only [intOf]; omega⟩
        · have hv : B 5 = B 4 + 16 := hB1.out
          have o3 : bits .or .i64 (B 4 : Int) 16 = ((B 4 + 16 : Nat) : Int) := o1
          clear o1
          go_wp2_with (go_at_call 55; refine (bitE_spec _ _).mono ?_; rintro e w' ⟨rfl, hww⟩; obtain rfl := hww.symm)
          refine ⟨⟨5, by omega, rfl, by rw [hv]; rfl⟩, by simp only [intOf]; omega⟩
    · obtain rfl : k = n := by omega
      clear hc hlt hS h0
      go_wp2
      go_ret
      exact ⟨rfl, rfl⟩
end Go.Proofs.Ytghcagibdcblnaa
