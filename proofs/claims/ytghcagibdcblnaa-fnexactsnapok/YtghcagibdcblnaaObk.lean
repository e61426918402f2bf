/- What the specification and the program say of ports that are right, and of new ones. -/
import Derived.Test.YtghcagibdcblnaaOak
import Derived.Test.YtghcagibdcblnaaInk
namespace Go.Proofs.Ytghcagibdcblnaa
open Go.ChangeShapes Go.WideShapes Go.ChangeAt Go.RowKit
set_option linter.unusedVariables false
set_option linter.unusedSimpArgs false

theorem iswP_impl (n a b : Int) (w : World) : Calls Try.prog 53 #[.int .i64 n, .int .i64 a, .int .i64 b] w fun e w' => e = .returned (.bool (inB n a b)) ∧ w' = w := by
  go_enter Try.func53, Try.ntmps53
  go_wp2
  all_goals go_ret
  all_goals exact ⟨ret_bool (by rw [Bool.eq_iff_iff]; simp [inB]; try omega), rfl⟩
theorem isbP_impl (n : Int) (w : World) : Calls Try.prog 49 #[.int .i64 n] w fun e w' => e = .returned (.bool (inB n 0 255)) ∧ w' = w := by
  go_enter Try.func49, Try.ntmps49
  go_wp2
  all_goals go_ret
  all_goals exact ⟨ret_bool (by rw [Bool.eq_iff_iff]; simp [inB]; try omega), rfl⟩
set_option maxRecDepth 100000 in
set_option maxHeartbeats 1000000 in
theorem pok_spec (c : Po) (w : World) : Calls Try.prog 18 #[poV c] w fun e w' => e = .returned (.bool (okPo c)) ∧ Below w.heap.size w w' := by
  have hno : Hid (∀ k, k < 8 → inB (c.key k) 0 31 = false → okPo c = false) := fun k hk => keys_no hk
  have hall : Hid ((∀ i, i < 8 → inB (c.key i) 0 31 = true) → okPo c = (inB c.joy 0 31 && inB c.border 0 7)) := fun h => by unfold okPo; rw [keys_all h, Bool.true_and]
  have hB := hid ((Below.refl w.heap.size w).alloc (Nat.le_refl _) (.cells (poA c) 37))
  have q1 := (Blk.new w (poA c) 37).cell
  have hix := hid (poA_at c)
  obtain ⟨Q, hQ⟩ : ∃ Q, okPo c = Q := ⟨_, rfl⟩
  rw [hQ] at hno hall ⊢
  clear hQ
  go_enter Try.func18, Try.ntmps18
  go_upto_region 1 with fail
  obtain ⟨V, hV⟩ : ∃ V, w.alloc (Obj.cells (poA c) 37) = V := ⟨_, rfl⟩
  rw [hV] at hB q1 ⊢
  clear hV
  go_wp2
  go_loop [3] (fun i => ∃ k : Nat, k ≤ 8 ∧ i = .int .i64 k ∧ ∀ j, j < k → inB (c.key j) 0 31 = true) (fun i => 8 - (intOf i).toNat)
  case atStart => exact ⟨0, by omega, rfl, fun j hj => by omega⟩
  case round =>
    obtain ⟨k, hk, rfl, hj⟩ := hrel
    by_cases hlt : k < 8
    · have x1 := q1 k
      rw [hix.out k hlt] at x1
      cases hb : inB (c.key k) 0 31
      · have hE := hid (hno.out k hlt hb)
        clear hj hno hall hk q1
        generalize c.key k = y at *
        go_wp2_with (go_at_call 32; refine (in_spec _ _ _ _).mono ?_; rintro e w' ⟨rfl, rfl⟩; rw [hb])
        go_ret
        exact ⟨ret_bool hE.out.symm, hB.out⟩
      · have hj2 : Hid (∀ j, j < k + 1 → inB (c.key j) 0 31 = true) := fun j hj1 => by
          by_cases e : j = k
          · rw [e]; exact hb
          · exact hj j (by omega)
        clear hj hno hall hk q1
        generalize c.key k = y at *
        go_wp2_with (go_at_call 32; refine (in_spec _ _ _ _).mono ?_; rintro e w' ⟨rfl, rfl⟩; rw [hb])
        go_round
        case rel => exact ⟨k + 1, by omega, by go_num, hj2.out⟩
        case measure => simp [intOf]; omega
    · obtain rfl : k = 8 := by omega
      have hE := hall.out hj
      clear hj hno hall hk hlt hix
      cases h1 : inB c.joy 0 31
      · rw [h1] at hE
        replace hE := hid hE
        go_wp2_with (go_at_call 32; refine (in_spec _ _ _ _).mono ?_; rintro e w' ⟨rfl, rfl⟩; rw [h1])
        go_ret
        exact ⟨ret_bool (by rw [hE.out]; rfl), hB.out⟩
      · rw [h1] at hE
        replace hE := hid hE
        go_wp2_with (go_at_call 32; refine (in_spec _ _ _ _).mono ?_; rintro e w' ⟨rfl, rfl⟩; try rw [h1])
        go_ret
        exact ⟨ret_bool (by rw [hE.out]; simp), hB.out⟩
theorem kyP_at (c : Po) (k : Nat) (hk : k < 8) (w : World) : (Instr.index 22 (.agg #[.int .i64 c.k0, .int .i64 c.k1, .int .i64 c.k2, .int .i64 c.k3, .int .i64 c.k4, .int .i64 c.k5, .int .i64 c.k6, .int .i64 c.k7]) (.int .i64 (k : Int))).run Try.prog w = .ok (.int .i64 (c.key k)) w := by
  rcases (by omega : k = 0 ∨ k = 1 ∨ k = 2 ∨ k = 3 ∨ k = 4 ∨ k = 5 ∨ k = 6 ∨ k = 7) with rfl | rfl | rfl | rfl | rfl | rfl | rfl | rfl <;> kernel_rfl
set_option maxRecDepth 100000 in
set_option maxHeartbeats 1000000 in
theorem pok_impl (c : Po) (w : World) : Calls Try.prog 38 #[poV c] w fun e w' => e = .returned (.bool (okPo c)) ∧ Below w.heap.size w w' := by
  have hno : Hid (∀ k, k < 8 → inB (c.key k) 0 31 = false → okPo c = false) := fun k hk => keys_no hk
  have hall : Hid ((∀ i, i < 8 → inB (c.key i) 0 31 = true) → okPo c = (inB c.joy 0 31 && inB c.border 0 7)) := fun h => by unfold okPo; rw [keys_all h, Bool.true_and]
  have hB := hid ((Below.refl w.heap.size w).alloc (Nat.le_refl _) (.cells (poA c) 37))
  have q1 := (Blk.new w (poA c) 37).cell
  have hix := hid (kyP_at c)
  obtain ⟨Q, hQ⟩ : ∃ Q, okPo c = Q := ⟨_, rfl⟩
  rw [hQ] at hno hall ⊢
  clear hQ
  go_enter Try.func38, Try.ntmps38
  go_upto_region 1 with fail
  obtain ⟨V, hV⟩ : ∃ V, w.alloc (Obj.cells (poA c) 37) = V := ⟨_, rfl⟩
  rw [hV] at hB q1 ⊢
  clear hV
  go_wp2
  go_loop [7] (fun i => ∃ k : Nat, k ≤ 8 ∧ i = .int .i64 k ∧ ∀ j, j < k → inB (c.key j) 0 31 = true) (fun i => 8 - (intOf i).toNat)
  case atStart => exact ⟨0, by omega, rfl, fun j hj => by omega⟩
  case round =>
    obtain ⟨k, hk, rfl, hj⟩ := hrel
    by_cases hlt : k < 8
    · have i1 := hix.out k hlt
      cases hb : inB (c.key k) 0 31
      · have hE := hid (hno.out k hlt hb)
        clear hj hno hall hk
        generalize c.key k = y at *
        go_wp2_with (go_at_call 53; refine (iswP_impl _ _ _ _).mono ?_; rintro e w' ⟨rfl, rfl⟩; rw [hb])
        go_ret
        exact ⟨ret_bool hE.out.symm, hB.out⟩
      · have hj2 : Hid (∀ j, j < k + 1 → inB (c.key j) 0 31 = true) := fun j hj1 => by
          by_cases e : j = k
          · rw [e]; exact hb
          · exact hj j (by omega)
        clear hj hno hall hk
        generalize c.key k = y at *
        go_wp2_with (go_at_call 53; refine (iswP_impl _ _ _ _).mono ?_; rintro e w' ⟨rfl, rfl⟩; rw [hb])
        go_round
        case rel => exact ⟨k + 1, by omega, by go_num, hj2.out⟩
        case measure => simp [intOf]; omega
    · obtain rfl : k = 8 := by omega
      have hE := hall.out hj
      clear hj hno hall hk hlt hix
      cases h1 : inB c.joy 0 31
      · rw [h1] at hE
        replace hE := hid hE
        go_wp2_with (go_at_call 53; refine (iswP_impl _ _ _ _).mono ?_; rintro e w' ⟨rfl, rfl⟩; rw [h1])
        go_ret
        exact ⟨ret_bool (by rw [hE.out]; rfl), hB.out⟩
      · rw [h1] at hE
        replace hE := hid hE
        go_wp2_with (go_at_call 53; refine (iswP_impl _ _ _ _).mono ?_; rintro e w' ⟨rfl, rfl⟩; try rw [h1])
        go_ret
        exact ⟨ret_bool (by rw [hE.out]; simp), hB.out⟩
/-- new ports -/
abbrev neP : Po := ⟨31, 31, 31, 31, 31, 31, 31, 31, 0, 7, false, false⟩
/-- new ports while the first k rows are laid -/
def nkZ (k i : Nat) : Value := .int .i64 (if i < k then 31 else 0)
def nkA (k : Nat) : Array Value := #[nkZ k 0, nkZ k 1, nkZ k 2, nkZ k 3, nkZ k 4, nkZ k 5, nkZ k 6, nkZ k 7, .int .i64 0, .int .i64 7, .bool false, .bool false]
theorem nkA_all : nkA 8 = poA neP := rfl
theorem nkA_succ (k : Nat) (hk : k < 8) : (nkA k).setIfInBounds k (.int .i64 31) = nkA (k + 1) := by
  rcases eight hk with rfl | rfl | rfl | rfl | rfl | rfl | rfl | rfl <;> rfl
theorem nkA_at (k : Nat) (hk : k < 8) : (nkA k)[k]? = some (.int .i64 0) := by
  rcases eight hk with rfl | rfl | rfl | rfl | rfl | rfl | rfl | rfl <;> rfl
end Go.Proofs.Ytghcagibdcblnaa
