/- What impl.NameOK and spec.NameOK answer, and the functions that they call: both are the one test nameB, in every world, which stays as it was. -/
import Derived.Test.YtaadobdanhpkkagBase
import Derived.WalkKit
import Derived.ProofKit
namespace Go.Proofs.Ytaadobdanhpkkag
open Go.ChangeShapes Go.WideShapes Go.ChangeAt Go.RowKit
set_option linter.unusedVariables false

def digB (c : Int) : Bool := decide (48 ≤ c ∧ c ≤ 57)
def letB (c : Int) : Bool := decide ((97 ≤ c ∧ c ≤ 122) ∨ (65 ≤ c ∧ c ≤ 90) ∨ c = 95)
def okB (c : Int) : Bool := letB c || digB c

theorem dig_impl (c : Int) (w : World) : Calls Try.prog 10 #[.int .u8 c] w fun e w' => e = .returned (.bool (digB c)) ∧ w' = w := by
  go_enter Try.func10, Try.ntmps10
  go_wp2
  all_goals go_ret
  all_goals exact ⟨ret_bool (by rw [Bool.eq_iff_iff]; simp [digB]; try omega), rfl⟩
theorem dig_spec (c : Int) (w : World) : Calls Try.prog 17 #[.int .u8 c] w fun e w' => e = .returned (.bool (digB c)) ∧ w' = w := by
  go_enter Try.func17, Try.ntmps17
  go_wp2
  all_goals go_ret
  all_goals exact ⟨ret_bool (by rw [Bool.eq_iff_iff]; simp [digB]; try omega), rfl⟩
theorem let_impl (c : Int) (w : World) : Calls Try.prog 11 #[.int .u8 c] w fun e w' => e = .returned (.bool (letB c)) ∧ w' = w := by
  go_enter Try.func11, Try.ntmps11
  go_wp2
  all_goals go_ret
  all_goals exact ⟨ret_bool (by rw [Bool.eq_iff_iff]; simp [letB]; try omega), rfl⟩
theorem let_spec (c : Int) (w : World) : Calls Try.prog 16 #[.int .u8 c] w fun e w' => e = .returned (.bool (letB c)) ∧ w' = w := by
  go_enter Try.func16, Try.ntmps16
  go_wp2
  all_goals go_ret
  all_goals exact ⟨ret_bool (by rw [Bool.eq_iff_iff]; simp [letB]; try omega), rfl⟩

abbrev nameP (s : ByteArray) : Prop := 1 ≤ s.size ∧ s.size ≤ 40 ∧ letB (byt s 0) = true ∧ ∀ j, j < s.size → okB (byt s j) = true
def nameB (s : ByteArray) : Bool := decide (1 ≤ s.size ∧ s.size ≤ 40 ∧ letB (byt s 0) = true ∧ ∀ j, j < s.size → okB (byt s j) = true)

theorem no_of {s : ByteArray} (h : ¬ nameP s) : false = nameB s := by unfold nameB; exact (decide_eq_false h).symm
theorem yes_of {s : ByteArray} (h : nameP s) : true = nameB s := by unfold nameB; exact (decide_eq_true h).symm
theorem let_not_dig (c : Int) : letB c = (okB c && !digB c) := by
  rw [Bool.eq_iff_iff]; simp [okB, letB, digB]; omega

theorem all_snoc {s : ByteArray} {k : Nat} (h : ∀ j, j < k → okB (byt s j) = true) (hk : okB (byt s k) = true) : ∀ j, j < k + 1 → okB (byt s j) = true := by
  intro j hj
  by_cases e : j = k
  · rw [e]; exact hk
  · exact h j (by omega)

theorem all_one {s : ByteArray} (h : letB (byt s 0) = true) : ∀ j, j < 1 → okB (byt s j) = true := by
  intro j hj
  have : j = 0 := by omega
  subst this
  simp [okB, h]

theorem name_impl (s : ByteArray) (w : World) (hs : s.size ≤ maxLen) : Calls Try.prog 6 #[.string s] w fun e w' => e = .returned (.bool (nameB s)) ∧ w' = w := by
  unfold maxLen at hs
  by_cases h1 : s.size < 1
  · go_enter Try.func6, Try.ntmps6
    go_wp2
    go_ret
    exact ⟨ret_bool (no_of (by unfold nameP; omega)), rfl⟩
  by_cases h2 : 40 < s.size
  · go_enter Try.func6, Try.ntmps6
    go_wp2
    go_ret
    exact ⟨ret_bool (no_of (by unfold nameP; omega)), rfl⟩
  have hz : 0 < s.size := by omega
  cases hd : digB (byt s 0)
  · go_enter Try.func6, Try.ntmps6
    go_wp2_with (first | (go_at_call 10; rw [byt_eq _ _ hz]; refine (dig_impl _ _).mono ?_; rintro e w' ⟨rfl, rfl⟩))
    go_loop [19] (fun i => ∃ k : Nat, k ≤ s.size ∧ i = .int .i64 k ∧ ∀ j, j < k → okB (byt s j) = true) (fun i => s.size - (intOf i).toNat)
    case atStart => exact ⟨0, Nat.zero_le _, rfl, fun j hj => absurd hj (Nat.not_lt_zero _)⟩
    case round =>
      obtain ⟨k, hk, rfl, hall⟩ := hrel
      have HA : Hid (∀ j, j < k → okB (byt s j) = true) := hall
      clear hall
      by_cases hlt : k < s.size
      · cases hl : letB (byt s k)
        · cases hg : digB (byt s k)
          · go_wp2_with (first | (go_at_call 10; rw [byt_eq _ _ hlt]; refine (dig_impl _ _).mono ?_; rintro e w' ⟨rfl, rfl⟩) | (go_at_call 11; rw [byt_eq _ _ hlt]; refine (let_impl _ _).mono ?_; rintro e w' ⟨rfl, rfl⟩))
            go_ret
            exact ⟨ret_bool (no_of (fun hn => by have := hn.2.2.2 k hlt; simp [okB, hl, hg] at this)), rfl⟩
          · go_wp2_with (first | (go_at_call 10; rw [byt_eq _ _ hlt]; refine (dig_impl _ _).mono ?_; rintro e w' ⟨rfl, rfl⟩) | (go_at_call 11; rw [byt_eq _ _ hlt]; refine (let_impl _ _).mono ?_; rintro e w' ⟨rfl, rfl⟩))
            go_round
            case rel => exact ⟨k + 1, by omega, by go_num, all_snoc HA.out (by simp [okB, hg])⟩
            case measure => simp [intOf]; omega
        · go_wp2_with (first | (go_at_call 10; rw [byt_eq _ _ hlt]; refine (dig_impl _ _).mono ?_; rintro e w' ⟨rfl, rfl⟩) | (go_at_call 11; rw [byt_eq _ _ hlt]; refine (let_impl _ _).mono ?_; rintro e w' ⟨rfl, rfl⟩))
          go_round
          case rel => exact ⟨k + 1, by omega, by go_num, all_snoc HA.out (by simp [okB, hl])⟩
          case measure => simp [intOf]; omega
      · go_wp2
        go_ret
        exact ⟨ret_bool (yes_of ⟨by omega, by omega, by rw [let_not_dig, hd, HA.out 0 (by omega)]; rfl, fun j hj => HA.out j (by omega)⟩), rfl⟩
  · go_enter Try.func6, Try.ntmps6
    go_wp2_with (first | (go_at_call 10; rw [byt_eq _ _ hz]; refine (dig_impl _ _).mono ?_; rintro e w' ⟨rfl, rfl⟩))
    go_ret
    exact ⟨ret_bool (no_of (by unfold nameP; rw [let_not_dig, hd]; simp)), rfl⟩

theorem name_spec (s : ByteArray) (w : World) (hs : s.size ≤ maxLen) : Calls Try.prog 9 #[.string s] w fun e w' => e = .returned (.bool (nameB s)) ∧ w' = w := by
  unfold maxLen at hs
  by_cases h1 : s.size < 1
  · go_enter Try.func9, Try.ntmps9
    go_wp2
    go_ret
    exact ⟨ret_bool (no_of (by unfold nameP; omega)), rfl⟩
  by_cases h2 : 40 < s.size
  · go_enter Try.func9, Try.ntmps9
    go_wp2
    go_ret
    exact ⟨ret_bool (no_of (by unfold nameP; omega)), rfl⟩
  have hz : 0 < s.size := by omega
  cases hd : letB (byt s 0)
  · go_enter Try.func9, Try.ntmps9
    go_wp2_with (first | (go_at_call 16; rw [byt_eq _ _ hz]; refine (let_spec _ _).mono ?_; rintro e w' ⟨rfl, rfl⟩))
    go_ret
    exact ⟨ret_bool (no_of (by unfold nameP; rw [hd]; simp)), rfl⟩
  · go_enter Try.func9, Try.ntmps9
    go_wp2_with (first | (go_at_call 16; rw [byt_eq _ _ hz]; refine (let_spec _ _).mono ?_; rintro e w' ⟨rfl, rfl⟩))
    go_loop [3] (fun i => ∃ k : Nat, 1 ≤ k ∧ k ≤ s.size ∧ i = .int .i64 k ∧ ∀ j, j < k → okB (byt s j) = true) (fun i => s.size - (intOf i).toNat)
    case atStart => exact ⟨1, by omega, by omega, rfl, all_one hd⟩
    case round =>
      obtain ⟨k, hk1, hk, rfl, hall⟩ := hrel
      have HA : Hid (∀ j, j < k → okB (byt s j) = true) := hall
      clear hall
      by_cases hlt : k < s.size
      · cases hl : letB (byt s k)
        · cases hg : digB (byt s k)
          · go_wp2_with (first | (go_at_call 17; rw [byt_eq _ _ hlt]; refine (dig_spec _ _).mono ?_; rintro e w' ⟨rfl, rfl⟩) | (go_at_call 16; rw [byt_eq _ _ hlt]; refine (let_spec _ _).mono ?_; rintro e w' ⟨rfl, rfl⟩))
            go_ret
            exact ⟨ret_bool (no_of (fun hn => by have := hn.2.2.2 k hlt; simp [okB, hl, hg] at this)), rfl⟩
          · go_wp2_with (first | (go_at_call 17; rw [byt_eq _ _ hlt]; refine (dig_spec _ _).mono ?_; rintro e w' ⟨rfl, rfl⟩) | (go_at_call 16; rw [byt_eq _ _ hlt]; refine (let_spec _ _).mono ?_; rintro e w' ⟨rfl, rfl⟩))
            go_round
            case rel => exact ⟨k + 1, by omega, by omega, by go_num, all_snoc HA.out (by simp [okB, hg])⟩
            case measure => simp [intOf]; omega
        · go_wp2_with (first | (go_at_call 17; rw [byt_eq _ _ hlt]; refine (dig_spec _ _).mono ?_; rintro e w' ⟨rfl, rfl⟩) | (go_at_call 16; rw [byt_eq _ _ hlt]; refine (let_spec _ _).mono ?_; rintro e w' ⟨rfl, rfl⟩))
          go_round
          case rel => exact ⟨k + 1, by omega, by omega, by go_num, all_snoc HA.out (by simp [okB, hl])⟩
          case measure => simp [intOf]; omega
      · go_wp2
        go_ret
        exact ⟨ret_bool (yes_of ⟨by omega, by omega, hd, fun j hj => HA.out j (by omega)⟩), rfl⟩
theorem name_spec5 (s : ByteArray) (w : World) (hs : s.size ≤ maxLen) : Calls Try.prog 5 #[.string s] w fun e w' => e = .returned (.bool (nameB s)) ∧ w' = w := by
  go_enter Try.func5, Try.ntmps5
  go_wp2_with (first | (go_at_call 9; refine (name_spec _ _ hs).mono ?_; rintro e w' ⟨rfl, rfl⟩))
  go_ret
  exact ⟨rfl, rfl⟩
end Go.Proofs.Ytaadobdanhpkkag
