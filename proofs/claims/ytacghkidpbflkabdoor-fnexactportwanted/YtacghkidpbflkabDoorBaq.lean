/- What the program's banks answer: a bank of numbers, whether it is whole, what is shown. -/
import Derived.Test.YtacghkidpbflkabDoorMfq
import Derived.Test.YtacghkidpbflkabDoorMgq
namespace Go.Proofs.YtacghkidpbflkabDoor
open Go.ChangeShapes Go.WideShapes Go.ChangeAt Go.RowKit
set_option linter.unusedVariables false
set_option linter.unusedSimpArgs false

theorem byte_impl (v : Int) (w : World) : Calls Tryd.prog 89 #[.int .i64 v] w fun e w' => e = .returned (.bool (inB v 0 255)) ∧ w' = w := by
  go_enter Tryd.func89, Tryd.ntmps89
  go_wp2
  all_goals go_ret
  all_goals exact ⟨ret_bool (by rw [Bool.eq_iff_iff]; simp [inB]; try omega), rfl⟩
theorem within_impl (n a b : Int) (w : World) : Calls Tryd.prog 127 #[.int .i64 n, .int .i64 a, .int .i64 b] w fun e w' => e = .returned (.bool (inB n a b)) ∧ w' = w := by
  go_enter Tryd.func127, Tryd.ntmps127
  go_wp2
  all_goals go_ret
  all_goals exact ⟨ret_bool (by rw [Bool.eq_iff_iff]; simp [inB]; try omega), rfl⟩
theorem screen_impl (n : Int) (w : World) : Calls Tryd.prog 161 #[.int .i64 n] w fun e w' => e = .returned (.bool (decide (n = 1 ∨ n = 3))) ∧ w' = w := by
  go_enter Tryd.func161, Tryd.ntmps161
  go_wp2
  all_goals go_ret
  all_goals exact ⟨ret_bool (by rw [Bool.eq_iff_iff]; simp; try omega), rfl⟩
theorem bankOf_impl (a : Option Addr) (n c : Nat) (w : World) : Calls Tryd.prog 145 #[.slice a n c] w fun e w' => e = .returned (.pointer (some ⟨w.heap.size, 0, none⟩)) ∧ w' = w.alloc (.cells #[.slice a n c] 156) := by
  go_enter Tryd.func145, Tryd.ntmps145
  go_wp2
  go_ret
  exact ⟨rfl, rfl⟩
set_option maxRecDepth 100000 in
theorem whole_impl (p : Nat) (a : Option Addr) (cap : Nat) (zs : List Int) (n : Nat) (w : World) (hp : w.cell? ⟨p, 0, none⟩ = some (.slice a zs.length cap)) (h : RowR w (.slice a zs.length cap) zs) (hl : zs.length ≤ 1000000000) (hn : n ≤ 1000000000) :
    Calls Tryd.prog 173 #[.pointer (some ⟨p, 0, none⟩), .int .i64 n] w fun e w' => e = .returned (.bool (bytesB zs n)) ∧ w' = w := by
  replace h := hid h.disj
  by_cases hne : zs.length = n
  · have hno : Hid (∀ k, k < zs.length → inB (zs.getD k 0) 0 255 = false → bytesB zs n = false) := fun k hk => bytes_no hk
    have hall : Hid ((∀ i, i < zs.length → inB (zs.getD i 0) 0 255 = true) → bytesB zs n = true) := fun h => by rw [bytes_all h]; exact decide_eq_true hne
    have hne2 : ((zs.length : Int) != (n : Int)) = false := by simp; omega
    replace hne := hid hne
    go_enter Tryd.func173, Tryd.ntmps173
    go_wp2
    go_loop [19] (fun i => ∃ k : Nat, k ≤ zs.length ∧ i = .int .i64 k ∧ ∀ j, j < k → inB (zs.getD j 0) 0 255 = true) (fun i => zs.length - (intOf i).toNat)
    case atStart => exact ⟨0, by omega, rfl, fun j hj => by omega⟩
    case round =>
      obtain ⟨k, hk, rfl, hj⟩ := hrel
      by_cases hlt : k < zs.length
      · obtain ⟨b, off, rfl, c1⟩ := row_some h.out hlt
        cases hb : inB (zs.getD k 0) 0 255
        · have hE := hid (hno.out k hlt hb)
          clear h hj hno hall
          generalize zs.getD k 0 = z at *
          go_wp2_with (go_at_call 89; refine (byte_impl _ _).mono ?_; rintro e w' ⟨rfl, rfl⟩; rw [hb])
          go_ret
          exact ⟨ret_bool hE.out.symm, rfl⟩
        · have hj2 : Hid (∀ j, j < k + 1 → inB (zs.getD j 0) 0 255 = true) := fun j hj1 => by
            by_cases e : j = k
            · rw [e]; exact hb
            · exact hj j (by omega)
          clear h hj hno hall
          generalize zs.getD k 0 = z at *
          go_wp2_with (go_at_call 89; refine (byte_impl _ _).mono ?_; rintro e w' ⟨rfl, rfl⟩; rw [hb])
          go_round
          case rel => exact ⟨k + 1, by omega, by go_num, hj2.out⟩
          case measure => simp [intOf]; omega
      · obtain rfl : k = zs.length := by omega
        have hE := hid (hall.out hj)
        clear hj h hno hall
        go_wp2
        go_ret
        exact ⟨ret_bool hE.out.symm, rfl⟩
  · have e : bytesB zs n = false := by unfold bytesB; rw [decide_eq_false hne, Bool.and_false]
    have hne2 : ((zs.length : Int) != (n : Int)) = true := by simp; omega
    rw [e]
    clear e hne
    go_enter Tryd.func173, Tryd.ntmps173
    go_wp2
    go_ret
    exact ⟨rfl, rfl⟩
theorem banks_impl (a1 a2 : Option Addr) (n1 p1 n2 p2 : Nat) (pg sc : Int) (l : Bool) (w : World) :
    Calls Tryd.prog 146 #[memV (.slice a1 n1 p1) (.slice a2 n2 p2) pg sc l] w fun e w' => e = .returned (.agg #[.int .i64 (-1), .int .i64 1, .int .i64 2, .int .i64 pg]) ∧ Below w.heap.size w w' := by
  go_enter Tryd.func146, Tryd.ntmps146
  go_wp2
  refine bodyPost_ret (v := .agg #[.int .i64 (-1), .int .i64 1, .int .i64 2, .int .i64 pg]) (by simp [results, Tryd.results146, go_sem]) rfl ⟨rfl, ?_⟩
  exact ((Below.refl _ _).alloc (Nat.le_refl _) _).alloc (by simp) _
theorem bank_impl (a1 a2 : Option Addr) (n1 p1 n2 p2 : Nat) (pg sc : Int) (l : Bool) (a : Int) (w : World) (h0 : 0 ≤ a) (h1 : a ≤ 255) :
    Calls Tryd.prog 162 #[memV (.slice a1 n1 p1) (.slice a2 n2 p2) pg sc l, .int .i64 a] w fun e w' => e = .returned (.int .i64 (bankI pg a)) ∧ Below w.heap.size w w' := by
  have hB : Hid (∀ o, Below w.heap.size w (w.alloc o)) := fun o => (Below.refl _ _).alloc (Nat.le_refl _) _
  have h4 : a / 64 = 0 ∨ a / 64 = 1 ∨ a / 64 = 2 ∨ a / 64 = 3 := by omega
  have e : (a / 64 = 0 → bankI pg a = -1) ∧ (a / 64 = 1 → bankI pg a = 1) ∧ (a / 64 = 2 → bankI pg a = 2) ∧ (a / 64 = 3 → bankI pg a = pg) := by
    unfold bankI
    refine ⟨fun h => ?_, fun h => ?_, fun h => ?_, fun h => ?_⟩
    · rw [if_pos (by omega)]
    · rw [if_neg (by omega), if_pos (by omega)]
    · rw [if_neg (by omega), if_neg (by omega), if_pos (by omega)]
    · rw [if_neg (by omega), if_neg (by omega), if_neg (by omega)]
  have i0 : ∀ w : World, (Instr.index 191 (.agg #[.int .i64 (-1), .int .i64 1, .int .i64 2, .int .i64 pg]) (.int .i64 0)).run Tryd.prog w = .ok (.int .i64 (-1)) w := fun _ => by kernel_rfl
  have i1 : ∀ w : World, (Instr.index 191 (.agg #[.int .i64 (-1), .int .i64 1, .int .i64 2, .int .i64 pg]) (.int .i64 1)).run Tryd.prog w = .ok (.int .i64 1) w := fun _ => by kernel_rfl
  have i2 : ∀ w : World, (Instr.index 191 (.agg #[.int .i64 (-1), .int .i64 1, .int .i64 2, .int .i64 pg]) (.int .i64 2)).run Tryd.prog w = .ok (.int .i64 2) w := fun _ => by kernel_rfl
  have i3 : ∀ w : World, (Instr.index 191 (.agg #[.int .i64 (-1), .int .i64 1, .int .i64 2, .int .i64 pg]) (.int .i64 3)).run Tryd.prog w = .ok (.int .i64 pg) w := fun _ => by kernel_rfl
  rcases h4 with h4 | h4 | h4 | h4
  · rw [e.1 h4]
    clear e
    go_enter Tryd.func162, Tryd.ntmps162
    go_wp2_with (go_at_call 146; refine (banks_impl _ _ _ _ _ _ _ _ _ _).mono ?_; rintro e w1 ⟨rfl, hb1⟩; replace hb1 := hid hb1)
    go_ret
    exact ⟨rfl, new_trans (hB.out _) hb1.out⟩
  · rw [e.2.1 h4]
    clear e
    go_enter Tryd.func162, Tryd.ntmps162
    go_wp2_with (go_at_call 146; refine (banks_impl _ _ _ _ _ _ _ _ _ _).mono ?_; rintro e w1 ⟨rfl, hb1⟩; replace hb1 := hid hb1)
    go_ret
    exact ⟨rfl, new_trans (hB.out _) hb1.out⟩
  · rw [e.2.2.1 h4]
    clear e
    go_enter Tryd.func162, Tryd.ntmps162
    go_wp2_with (go_at_call 146; refine (banks_impl _ _ _ _ _ _ _ _ _ _).mono ?_; rintro e w1 ⟨rfl, hb1⟩; replace hb1 := hid hb1)
    go_ret
    exact ⟨rfl, new_trans (hB.out _) hb1.out⟩
  · rw [e.2.2.2 h4]
    clear e
    go_enter Tryd.func162, Tryd.ntmps162
    go_wp2_with (go_at_call 146; refine (banks_impl _ _ _ _ _ _ _ _ _ _).mono ?_; rintro e w1 ⟨rfl, hb1⟩; replace hb1 := hid hb1)
    go_ret
    exact ⟨rfl, new_trans (hB.out _) hb1.out⟩
end Go.Proofs.YtacghkidpbflkabDoor
