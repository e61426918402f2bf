/- What the program's banks answer: a bank of numbers, whether it is whole, what is shown. -/
import Derived.Test.YtghcagibdcblnaaMfk
import Derived.Test.YtghcagibdcblnaaK24
namespace Go.Proofs.Ytghcagibdcblnaa
open Go.ChangeShapes Go.WideShapes Go.ChangeAt Go.RowKit
set_option linter.unusedVariables false
set_option linter.unusedSimpArgs false

theorem byte_impl (v : Int) (w : World) : Calls Try.prog 49 #[.int .i64 v] w fun e w' => e = .returned (.bool (inB v 0 255)) ∧ w' = w := by
  go_enter Try.func49, Try.ntmps49
  go_wp2
  all_goals go_ret
  all_goals exact ⟨ret_bool (by rw [Bool.eq_iff_iff]; simp [inB]; try omega), rfl⟩
theorem within_impl (n a b : Int) (w : World) : Calls Try.prog 53 #[.int .i64 n, .int .i64 a, .int .i64 b] w fun e w' => e = .returned (.bool (inB n a b)) ∧ w' = w := by
  go_enter Try.func53, Try.ntmps53
  go_wp2
  all_goals go_ret
  all_goals exact ⟨ret_bool (by rw [Bool.eq_iff_iff]; simp [inB]; try omega), rfl⟩
theorem screen_impl (n : Int) (w : World) : Calls Try.prog 54 #[.int .i64 n] w fun e w' => e = .returned (.bool (decide (n = 1 ∨ n = 3))) ∧ w' = w := by
  go_enter Try.func54, Try.ntmps54
  go_wp2
  all_goals go_ret
  all_goals exact ⟨ret_bool (by rw [Bool.eq_iff_iff]; simp; try omega), rfl⟩
theorem bankOf_impl (a : Option Addr) (n c : Nat) (w : World) : Calls Try.prog 51 #[.slice a n c] w fun e w' => e = .returned (.pointer (some ⟨w.heap.size, 0, none⟩)) ∧ w' = w.alloc (.cells #[.slice a n c] 94) := by
  go_enter Try.func51, Try.ntmps51
  go_wp2
  go_ret
  exact ⟨rfl, rfl⟩
set_option maxRecDepth 100000 in
theorem whole_impl (p : Nat) (a : Option Addr) (cap : Nat) (zs : List Int) (n : Nat) (w : World) (hp : w.cell? ⟨p, 0, none⟩ = some (.slice a zs.length cap)) (h : RowR w (.slice a zs.length cap) zs) (hl : zs.length ≤ 1000000000) (hn : n ≤ 1000000000) :
    Calls Try.prog 52 #[.pointer (some ⟨p, 0, none⟩), .int .i64 n] w fun e w' => e = .returned (.bool (bytesB zs n)) ∧ w' = w := by
  replace h := hid h.disj
  by_cases hne : zs.length = n
  · have hno : Hid (∀ k, k < zs.length → inB (zs.getD k 0) 0 255 = false → bytesB zs n = false) := fun k hk => bytes_no hk
    have hall : Hid ((∀ i, i < zs.length → inB (zs.getD i 0) 0 255 = true) → bytesB zs n = true) := fun h => by rw [bytes_all h]; exact decide_eq_true hne
    have hne2 : ((zs.length : Int) != (n : Int)) = false := by simp; omega
    replace hne := hid hne
    go_enter Try.func52, Try.ntmps52
    go_wp2
    go_loop [19] (fun i => ∃ k : Nat, k ≤ zs.length ∧ i = .int .i64 k ∧ ∀ j, j < k → inB (zs.getD j 0) 0 255 = true) (fun i => zs.length - (intOf i).toNat)
    case atStart => exact ⟨0, by omega, rfl, fun j hj => by omega⟩
    case round =>
      obtain ⟨k, hk, rfl, hj⟩ := hrel
      by_cases hlt : k < zs.length
      · obtain ⟨b, off, rfl, c1⟩ := row_some h.out hlt
        cases hb : inB (zs.getD k 0) 0 255
        · have hE := hid (hno.out k hlt hb)
          clear h hj hno hall
          generalize zs.getD k 0 = z at *
          go_wp2_with (go_at_call 49; refine (byte_impl _ _).mono ?_; rintro e w' ⟨rfl, rfl⟩; rw [hb])
          go_ret
          exact ⟨ret_bool hE.out.symm, rfl⟩
        · have hj2 : Hid (∀ j, j < k + 1 → inB (zs.getD j 0) 0 255 = true) := fun j hj1 => by
            by_cases e : j = k
            · rw [e]; exact hb
            · exact hj j (by omega)
          clear h hj hno hall
          generalize zs.getD k 0 = z at *
          go_wp2_with (go_at_call 49; refine (byte_impl _ _).mono ?_; rintro e w' ⟨rfl, rfl⟩; rw [hb])
          go_round
          case rel => exact ⟨k + 1, by omega, by go_num, hj2.out⟩
          case measure => simp [intOf]; omega
      · obtain rfl : k = zs.length := by omega
        have hE := hid (hall.out hj)
        clear hj h hno hall
        go_wp2
        go_ret
        exact ⟨ret_bool hE.out.symm, rfl⟩
  · have e : bytesB zs n = false := by unfold bytesB; rw [decide_eq_false hne, Bool.and_false]
    have hne2 : ((zs.length : Int) != (n : Int)) = true := by simp; omega
    rw [e]
    clear e hne
    go_enter Try.func52, Try.ntmps52
    go_wp2
    go_ret
    exact ⟨rfl, rfl⟩
end Go.Proofs.Ytghcagibdcblnaa
