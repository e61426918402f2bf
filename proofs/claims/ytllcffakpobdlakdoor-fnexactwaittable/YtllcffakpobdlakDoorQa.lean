/- What the program's frame answers: where a T stands, its waits, its fetches; the two patterns being in their blocks. -/
import Derived.Test.YtllcffakpobdlakDoorSa
namespace Go.Proofs.YtllcffakpobdlakDoor
open Go.ChangeShapes Go.WideShapes Go.ChangeAt Go.RowKit
set_option linter.unusedVariables false

theorem scr_row (t : Int) : inB (t / 32 - 4) 0 7 = inB (t / 32) 4 11 := by
  unfold inB
  rw [decide_eq_decide]
  omega
theorem wi_impl (n a b : Int) (w : World) : Calls Tryd.prog 23 #[.int .i64 n, .int .i64 a, .int .i64 b] w fun e w' => e = .returned (.bool (inB n a b)) ∧ w' = w := by
  go_enter Tryd.func23, Tryd.ntmps23
  go_wp2
  all_goals go_ret
  all_goals exact ⟨ret_bool (by rw [Bool.eq_iff_iff]; simp [inB]; try omega), rfl⟩
theorem frame_impl (t : Int) (w : World) : Calls Tryd.prog 17 #[.int .i64 t] w fun e w' => e = .returned (.bool (inB t 0 639)) ∧ w' = w := by
  go_enter Tryd.func17, Tryd.ntmps17
  go_wp2_with (go_at_call 23; refine (wi_impl _ _ _ _).mono ?_; rintro e w' ⟨rfl, rfl⟩)
  go_ret
  exact ⟨rfl, rfl⟩
theorem place_impl (t : Int) (w : World) (h0 : 0 ≤ t) (h1 : t ≤ 639) : Calls Tryd.prog 18 #[.int .i64 t] w fun e w' => e = .returned (.tuple #[.int .i64 (t / 32 - 4), .int .i64 (t % 32), .bool (scrI t)]) ∧ w' = w := by
  cases h : inB (t / 32) 4 11
  all_goals
    have hr := scr_row t
    rw [h] at hr
    go_enter Tryd.func18, Tryd.ntmps18
    go_wp2_with (go_at_call 23; refine (wi_impl _ _ _ _).mono ?_; rintro e w' ⟨rfl, rfl⟩; rw [hr])
    go_ret3
    exact ⟨by simp [scrI, h], rfl⟩
/-- the pattern of waits lies in its block -/
def Pat (w : World) : Prop := ∀ i : Nat, i < 8 → w.cell? ⟨1, i, none⟩ = some (.int .i64 (max 0 (6 - (i : Int))))
theorem pat_below {w w' : World} (h : Pat w) (hb : Below w.heap.size w w') : Pat w' := by
  intro i hi
  have h1 := h i hi
  have h2 := World.block_lt_of_cell? w _ h1
  rw [hb.cell (p := ⟨1, i, none⟩) h2]
  exact h1
theorem waitof_impl (t : Int) (w : World) (h0 : 0 ≤ t) (h1 : t ≤ 639) (hP : Pat w) : Calls Tryd.prog 14 #[.int .i64 t] w fun e w' => e = .returned (.int .i64 (waitI t)) ∧ w' = w := by
  cases h : scrI t
  · have e : waitI t = 0 := by unfold waitI; rw [if_neg (by rw [h]; decide)]
    rw [e]
    clear e
    go_enter Tryd.func14, Tryd.ntmps14
    go_wp2_with (go_at_call 18; refine (place_impl _ _ h0 h1).mono ?_; rintro e w' ⟨rfl, rfl⟩; rw [h])
    go_ret
    exact ⟨rfl, rfl⟩
  · obtain ⟨k, hk, hk8⟩ : ∃ k : Nat, t % 32 % 8 = (k : Int) ∧ k < 8 := ⟨(t % 32 % 8).toNat, by omega, by omega⟩
    have e : waitI t = max 0 (6 - (k : Int)) := by unfold waitI; rw [if_pos h, ← hk]; congr 2; omega
    rw [e]
    clear e
    have hc := hP k hk8
    clear hP
    generalize max 0 (6 - (k : Int)) = v at *
    go_enter Tryd.func14, Tryd.ntmps14
    go_wp2_with (go_at_call 18; refine (place_impl _ _ h0 h1).mono ?_; rintro e w' ⟨rfl, rfl⟩; rw [h])
    go_ret
    exact ⟨rfl, rfl⟩
/-- the pattern of fetches lies in its block -/
structure FPat (w : World) : Prop where
  a0 : w.cell? ⟨0, 0, none⟩ = some (.int .i64 0)
  a1 : w.cell? ⟨0, 1, none⟩ = some (.int .i64 32)
  a2 : w.cell? ⟨0, 2, none⟩ = some (.int .i64 (-1))
  a3 : w.cell? ⟨0, 3, none⟩ = some (.int .i64 (-1))
theorem fpat_below {w w' : World} (h : FPat w) (hb : Below w.heap.size w w') : FPat w' := by
  have k : ∀ (i : Nat) (v : Value), w.cell? ⟨0, i, none⟩ = some v → w'.cell? ⟨0, i, none⟩ = some v := by
    intro i v h1
    rw [hb.cell (p := ⟨0, i, none⟩) (World.block_lt_of_cell? w _ h1)]
    exact h1
  exact ⟨k _ _ h.a0, k _ _ h.a1, k _ _ h.a2, k _ _ h.a3⟩
theorem fetch_impl (t : Int) (w : World) (hP : FPat w) : Calls Tryd.prog 11 #[.int .i64 t] w fun e w' => e = .returned (fet2 t) ∧ w' = w := by
  cases h : inB t 0 639
  · have e : fet2 t = .tuple #[.int .i64 0, .int .i64 4] := by unfold fet2; rw [h]; rfl
    rw [e]
    clear hP
    go_enter Tryd.func11, Tryd.ntmps11
    go_wp2_with (go_at_call 17; refine (frame_impl _ _).mono ?_; rintro e w' ⟨rfl, rfl⟩; rw [h])
    go_ret2
    exact ⟨rfl, rfl⟩
  · have e : fet2 t = .tuple #[.int .i64 (fetI t), .int .i64 0] := by unfold fet2; rw [h]; rfl
    rw [e]
    clear e
    obtain ⟨h0, h1⟩ := fr_yes h
    have hm : t % 4 = 0 ∨ t % 4 = 1 ∨ t % 4 = 2 ∨ t % 4 = 3 := by omega
    have hk : t % 32 % 4 = t % 4 := by omega
    cases hs : scrI t
    · have e : fetI t = -1 := by unfold fetI; rw [if_neg (by rw [hs]; simp)]
      rw [e]
      clear e
      rcases hm with hm | hm | hm | hm
      · have hc := hP.a0
        rw [hm] at hk
        clear hP hm
        go_enter Tryd.func11, Tryd.ntmps11
        go_wp2_with (first | (go_at_call 17; refine (frame_impl _ _).mono ?_; rintro e w' ⟨rfl, rfl⟩; rw [h]) | (go_at_call 18; refine (place_impl _ _ h0 h1).mono ?_; rintro e w' ⟨rfl, rfl⟩; rw [hs]))
        go_ret2
        exact ⟨rfl, rfl⟩
      · have hc := hP.a1
        rw [hm] at hk
        clear hP hm
        go_enter Tryd.func11, Tryd.ntmps11
        go_wp2_with (first | (go_at_call 17; refine (frame_impl _ _).mono ?_; rintro e w' ⟨rfl, rfl⟩; rw [h]) | (go_at_call 18; refine (place_impl _ _ h0 h1).mono ?_; rintro e w' ⟨rfl, rfl⟩; rw [hs]))
        go_ret2
        exact ⟨rfl, rfl⟩
      · have hc := hP.a2
        rw [hm] at hk
        clear hP hm
        go_enter Tryd.func11, Tryd.ntmps11
        go_wp2_with (first | (go_at_call 17; refine (frame_impl _ _).mono ?_; rintro e w' ⟨rfl, rfl⟩; rw [h]) | (go_at_call 18; refine (place_impl _ _ h0 h1).mono ?_; rintro e w' ⟨rfl, rfl⟩; rw [hs]))
        go_ret2
        exact ⟨rfl, rfl⟩
      · have hc := hP.a3
        rw [hm] at hk
        clear hP hm
        go_enter Tryd.func11, Tryd.ntmps11
        go_wp2_with (first | (go_at_call 17; refine (frame_impl _ _).mono ?_; rintro e w' ⟨rfl, rfl⟩; rw [h]) | (go_at_call 18; refine (place_impl _ _ h0 h1).mono ?_; rintro e w' ⟨rfl, rfl⟩; rw [hs]))
        go_ret2
        exact ⟨rfl, rfl⟩
    · have hb : inB (t / 32) 4 11 = true := by unfold scrI at hs; simp at hs; exact hs.1
      have hb2 : 4 ≤ t / 32 ∧ t / 32 ≤ 11 := by simpa [inB] using hb
      clear hb
      rcases hm with hm | hm | hm | hm
      · have hc := hP.a0
        have e : fetI t = 4 * (t / 32 - 4) + t % 32 / 4 + 0 := by unfold fetI; rw [if_pos ⟨hs, by omega⟩, hm]; rfl
        rw [hm] at hk
        replace e : Hid (fetI t = 4 * (t / 32 - 4) + t % 32 / 4 + 0) := e
        clear hP hm
        go_enter Tryd.func11, Tryd.ntmps11
        go_wp2_with (first | (go_at_call 17; refine (frame_impl _ _).mono ?_; rintro e w' ⟨rfl, rfl⟩; rw [h]) | (go_at_call 18; refine (place_impl _ _ h0 h1).mono ?_; rintro e w' ⟨rfl, rfl⟩; rw [hs]) | go_in)
        go_ret2
        exact ⟨by rw [e.out]; simp, rfl⟩
      · have hc := hP.a1
        have e : fetI t = 4 * (t / 32 - 4) + t % 32 / 4 + 32 := by unfold fetI; rw [if_pos ⟨hs, by omega⟩, hm]; rfl
        rw [hm] at hk
        replace e : Hid (fetI t = 4 * (t / 32 - 4) + t % 32 / 4 + 32) := e
        clear hP hm
        go_enter Tryd.func11, Tryd.ntmps11
        go_wp2_with (first | (go_at_call 17; refine (frame_impl _ _).mono ?_; rintro e w' ⟨rfl, rfl⟩; rw [h]) | (go_at_call 18; refine (place_impl _ _ h0 h1).mono ?_; rintro e w' ⟨rfl, rfl⟩; rw [hs]) | go_in)
        go_ret2
        exact ⟨by rw [e.out]; simp, rfl⟩
      · have hc := hP.a2
        have e : fetI t = -1 := by unfold fetI; rw [if_neg (by omega)]
        rw [e]
        rw [hm] at hk
        clear hP hm e
        go_enter Tryd.func11, Tryd.ntmps11
        go_wp2_with (first | (go_at_call 17; refine (frame_impl _ _).mono ?_; rintro e w' ⟨rfl, rfl⟩; rw [h]) | (go_at_call 18; refine (place_impl _ _ h0 h1).mono ?_; rintro e w' ⟨rfl, rfl⟩; rw [hs]))
        go_ret2
        exact ⟨rfl, rfl⟩
      · have hc := hP.a3
        have e : fetI t = -1 := by unfold fetI; rw [if_neg (by omega)]
        rw [e]
        rw [hm] at hk
        clear hP hm e
        go_enter Tryd.func11, Tryd.ntmps11
        go_wp2_with (first | (go_at_call 17; refine (frame_impl _ _).mono ?_; rintro e w' ⟨rfl, rfl⟩; rw [h]) | (go_at_call 18; refine (place_impl _ _ h0 h1).mono ?_; rintro e w' ⟨rfl, rfl⟩; rw [hs]))
        go_ret2
        exact ⟨rfl, rfl⟩
end Go.Proofs.YtllcffakpobdlakDoor
