/- Acts: right ones; what the specification and the program say of them. -/
import Derived.Test.YtneagomkohoceabDoorBase
import Derived.Test.YtneagomkohoceabDoorIn
import Derived.Test.YtneagomkohoceabDoorBl
import Derived.Test.YtneagomkohoceabDoorQa
import Derived.Deep.Cut
namespace Go.Proofs.YtneagomkohoceabDoor
open Go.ChangeShapes Go.WideShapes Go.ChangeAt Go.RowKit
set_option linter.unusedVariables false
set_option linter.unusedSimpArgs false

abbrev acA (k a b : Int) (d : Bool) : Array Value := #[.int .i64 k, .int .i64 a, .int .i64 b, .bool d]
abbrev acV (k a b : Int) (d : Bool) : Value := .agg #[.int .i64 k, .int .i64 a, .int .i64 b, .bool d]
def okAc (k a b : Int) (d : Bool) : Bool :=
  if k = 1 then inB a 0 7 && inB b 0 4
  else if k = 2 then inB a 0 31 && (b == 0) && !d
  else if k = 6 then inB a 0 6 && (b == 0) && !d
  else inB k 3 8 && (a == 0) && (b == 0) && !d
set_option maxRecDepth 100000 in
set_option maxHeartbeats 4000000 in
theorem actok_spec (k a b : Int) (d : Bool) (w : World) : Calls Tryd.prog 59 #[acV k a b d] w fun e w' => e = .returned (.bool (okAc k a b d)) ∧ Below w.heap.size w w' := by
  have hB := hid ((Below.refl w.heap.size w).alloc (Nat.le_refl _) (.cells (acA k a b d) 68))
  have hE : okAc k a b d = okAc k a b d := rfl
  obtain ⟨Q, hQ⟩ : ∃ Q, okAc k a b d = Q := ⟨_, rfl⟩
  rw [hQ]
  clear hE
  by_cases k1 : k = 1
  · subst k1
    have hq : (inB a 0 7 && inB b 0 4) = Q := hQ
    clear hQ
    cases h1 : inB a 0 7
    · rw [h1] at hq
      replace hq := hid hq
      go_enter Tryd.func59, Tryd.ntmps59
      go_wp2_with (go_at_call 76; refine (in_spec _ _ _ _).mono ?_; rintro r w' ⟨rfl, rfl⟩; rw [h1])
      go_ret
      exact ⟨ret_bool hq.out, hB.out⟩
    · rw [h1] at hq
      replace hq := hid hq
      go_enter Tryd.func59, Tryd.ntmps59
      go_wp2_with (go_at_call 76; refine (in_spec _ _ _ _).mono ?_; rintro r w' ⟨rfl, rfl⟩; first | rw [h1] | skip)
      go_ret
      exact ⟨ret_bool hq.out, hB.out⟩
  · have n1 : (k == 1) = false := by simpa using k1
    by_cases k2 : k = 2
    · subst k2
      have hq : (inB a 0 31 && (b == 0) && !d) = Q := hQ
      clear hQ k1
      cases h1 : inB a 0 31 <;> cases h2 : (b == 0) <;> cases d <;> rw [h1, h2] at hq
      all_goals
        replace hq := hid hq
        clear n1
        go_enter Tryd.func59, Tryd.ntmps59
        go_wp2_with (go_at_call 76; refine (in_spec _ _ _ _).mono ?_; rintro r w' ⟨rfl, rfl⟩; rw [h1])
        go_ret
        exact ⟨ret_bool hq.out, hB.out⟩
    · have n2 : (k == 2) = false := by simpa using k2
      by_cases k6 : k = 6
      · subst k6
        have hq : (inB a 0 6 && (b == 0) && !d) = Q := hQ
        clear hQ k1 k2
        cases h1 : inB a 0 6 <;> cases h2 : (b == 0) <;> cases d <;> rw [h1, h2] at hq
        all_goals
          replace hq := hid hq
          clear n1 n2
          go_enter Tryd.func59, Tryd.ntmps59
          go_wp2_with (go_at_call 76; refine (in_spec _ _ _ _).mono ?_; rintro r w' ⟨rfl, rfl⟩; rw [h1])
          go_ret
          exact ⟨ret_bool hq.out, hB.out⟩
      · have n6 : (k == 6) = false := by simpa using k6
        have hq : (inB k 3 8 && (a == 0) && (b == 0) && !d) = Q := by
          rw [← hQ]
          unfold okAc
          rw [if_neg k1, if_neg k2, if_neg k6]
        clear hQ k1 k2 k6
        cases h1 : inB k 3 8 <;> cases h3 : (a == 0) <;> cases h2 : (b == 0) <;> cases d <;> rw [h1, h2, h3] at hq
        all_goals
          replace hq := hid hq
          go_enter Tryd.func59, Tryd.ntmps59
          go_wp2_with (go_at_call 76; refine (in_spec _ _ _ _).mono ?_; rintro r w' ⟨rfl, rfl⟩; rw [h1])
          go_ret
          exact ⟨ret_bool hq.out, hB.out⟩
/-- the deed of an act, as a value; whether it is right -/
def deedV (k a b : Int) (d : Bool) : Value :=
  if k = 1 then .iface 191 (.agg #[.int .i64 a, .int .i64 b, .bool d])
  else if k = 2 ∧ b = 0 ∧ d = false then .iface 193 (.agg #[.int .i64 a])
  else if k = 3 ∧ a = 0 ∧ b = 0 ∧ d = false then .iface 197 (.agg #[])
  else if k = 4 ∧ a = 0 ∧ b = 0 ∧ d = false then .iface 198 (.agg #[])
  else if k = 5 ∧ a = 0 ∧ b = 0 ∧ d = false then .iface 199 (.agg #[])
  else if k = 6 ∧ b = 0 ∧ d = false then .iface 201 (.agg #[.int .i64 a])
  else if k = 7 ∧ a = 0 ∧ b = 0 ∧ d = false then .iface 202 (.agg #[])
  else if k = 8 ∧ a = 0 ∧ b = 0 ∧ d = false then .iface 203 (.agg #[])
  else .nilIface
set_option maxRecDepth 100000 in
set_option maxHeartbeats 4000000 in
theorem deed_key (a b : Int) (d : Bool) (w : World) : Calls Tryd.prog 111 #[acV 1 a b d] w fun e w' => e = .returned (.iface 191 (.agg #[.int .i64 a, .int .i64 b, .bool d])) ∧ Below w.heap.size w w' := by
  have hB := hid ((Below.refl w.heap.size w).alloc (Nat.le_refl _) (.cells (acA 1 a b d) 68))
  go_enter Tryd.func111, Tryd.ntmps111
  go_wp2
  go_ret
  exact ⟨rfl, hB.out⟩
set_option maxRecDepth 100000 in
set_option maxHeartbeats 4000000 in
theorem deed_2 (a b : Int) (d : Bool) (w : World) : Calls Tryd.prog 111 #[acV 2 a b d] w fun e w' => e = .returned (deedV 2 a b d) ∧ Below w.heap.size w w' := by
  have hB := hid ((Below.refl w.heap.size w).alloc (Nat.le_refl _) (.cells (acA 2 a b d) 68))
  obtain ⟨V, hV⟩ : ∃ V, deedV 2 a b d = V := ⟨_, rfl⟩
  rw [hV]
  cases h2 : (b == 0) <;> cases d
  all_goals
    have e2 := h2
    simp only [beq_iff_eq, beq_eq_false_iff_ne] at e2
    simp [deedV, e2] at hV
    subst hV
    clear e2
    go_enter Tryd.func111, Tryd.ntmps111
    go_wp2
    go_ret
    exact ⟨rfl, hB.out⟩
set_option maxRecDepth 100000 in
set_option maxHeartbeats 4000000 in
theorem deed_3 (a b : Int) (d : Bool) (w : World) : Calls Tryd.prog 111 #[acV 3 a b d] w fun e w' => e = .returned (deedV 3 a b d) ∧ Below w.heap.size w w' := by
  have hB := hid ((Below.refl w.heap.size w).alloc (Nat.le_refl _) (.cells (acA 3 a b d) 68))
  obtain ⟨V, hV⟩ : ∃ V, deedV 3 a b d = V := ⟨_, rfl⟩
  rw [hV]
  cases h1 : (a == 0) <;> cases h2 : (b == 0) <;> cases d
  all_goals
    have e1 := h1; have e2 := h2
    simp only [beq_iff_eq, beq_eq_false_iff_ne] at e1 e2
    simp [deedV, e1, e2] at hV
    subst hV
    clear e2 e1
    go_enter Tryd.func111, Tryd.ntmps111
    go_wp2
    go_ret
    exact ⟨rfl, hB.out⟩
set_option maxRecDepth 100000 in
set_option maxHeartbeats 4000000 in
theorem deed_4 (a b : Int) (d : Bool) (w : World) : Calls Tryd.prog 111 #[acV 4 a b d] w fun e w' => e = .returned (deedV 4 a b d) ∧ Below w.heap.size w w' := by
  have hB := hid ((Below.refl w.heap.size w).alloc (Nat.le_refl _) (.cells (acA 4 a b d) 68))
  obtain ⟨V, hV⟩ : ∃ V, deedV 4 a b d = V := ⟨_, rfl⟩
  rw [hV]
  cases h1 : (a == 0) <;> cases h2 : (b == 0) <;> cases d
  all_goals
    have e1 := h1; have e2 := h2
    simp only [beq_iff_eq, beq_eq_false_iff_ne] at e1 e2
    simp [deedV, e1, e2] at hV
    subst hV
    clear e2 e1
    go_enter Tryd.func111, Tryd.ntmps111
    go_wp2
    go_ret
    exact ⟨rfl, hB.out⟩
set_option maxRecDepth 100000 in
set_option maxHeartbeats 4000000 in
theorem deed_5 (a b : Int) (d : Bool) (w : World) : Calls Tryd.prog 111 #[acV 5 a b d] w fun e w' => e = .returned (deedV 5 a b d) ∧ Below w.heap.size w w' := by
  have hB := hid ((Below.refl w.heap.size w).alloc (Nat.le_refl _) (.cells (acA 5 a b d) 68))
  obtain ⟨V, hV⟩ : ∃ V, deedV 5 a b d = V := ⟨_, rfl⟩
  rw [hV]
  cases h1 : (a == 0) <;> cases h2 : (b == 0) <;> cases d
  all_goals
    have e1 := h1; have e2 := h2
    simp only [beq_iff_eq, beq_eq_false_iff_ne] at e1 e2
    simp [deedV, e1, e2] at hV
    subst hV
    clear e2 e1
    go_enter Tryd.func111, Tryd.ntmps111
    go_wp2
    go_ret
    exact ⟨rfl, hB.out⟩
set_option maxRecDepth 100000 in
set_option maxHeartbeats 4000000 in
theorem deed_6 (a b : Int) (d : Bool) (w : World) : Calls Tryd.prog 111 #[acV 6 a b d] w fun e w' => e = .returned (deedV 6 a b d) ∧ Below w.heap.size w w' := by
  have hB := hid ((Below.refl w.heap.size w).alloc (Nat.le_refl _) (.cells (acA 6 a b d) 68))
  obtain ⟨V, hV⟩ : ∃ V, deedV 6 a b d = V := ⟨_, rfl⟩
  rw [hV]
  cases h2 : (b == 0) <;> cases d
  all_goals
    have e2 := h2
    simp only [beq_iff_eq, beq_eq_false_iff_ne] at e2
    simp [deedV, e2] at hV
    subst hV
    clear e2
    go_enter Tryd.func111, Tryd.ntmps111
    go_wp2
    go_ret
    exact ⟨rfl, hB.out⟩
set_option maxRecDepth 100000 in
set_option maxHeartbeats 4000000 in
theorem deed_7 (a b : Int) (d : Bool) (w : World) : Calls Tryd.prog 111 #[acV 7 a b d] w fun e w' => e = .returned (deedV 7 a b d) ∧ Below w.heap.size w w' := by
  have hB := hid ((Below.refl w.heap.size w).alloc (Nat.le_refl _) (.cells (acA 7 a b d) 68))
  obtain ⟨V, hV⟩ : ∃ V, deedV 7 a b d = V := ⟨_, rfl⟩
  rw [hV]
  cases h1 : (a == 0) <;> cases h2 : (b == 0) <;> cases d
  all_goals
    have e1 := h1; have e2 := h2
    simp only [beq_iff_eq, beq_eq_false_iff_ne] at e1 e2
    simp [deedV, e1, e2] at hV
    subst hV
    clear e2 e1
    go_enter Tryd.func111, Tryd.ntmps111
    go_wp2
    go_ret
    exact ⟨rfl, hB.out⟩
set_option maxRecDepth 100000 in
set_option maxHeartbeats 4000000 in
theorem deed_8 (a b : Int) (d : Bool) (w : World) : Calls Tryd.prog 111 #[acV 8 a b d] w fun e w' => e = .returned (deedV 8 a b d) ∧ Below w.heap.size w w' := by
  have hB := hid ((Below.refl w.heap.size w).alloc (Nat.le_refl _) (.cells (acA 8 a b d) 68))
  obtain ⟨V, hV⟩ : ∃ V, deedV 8 a b d = V := ⟨_, rfl⟩
  rw [hV]
  cases h1 : (a == 0) <;> cases h2 : (b == 0) <;> cases d
  all_goals
    have e1 := h1; have e2 := h2
    simp only [beq_iff_eq, beq_eq_false_iff_ne] at e1 e2
    simp [deedV, e1, e2] at hV
    subst hV
    clear e2 e1
    go_enter Tryd.func111, Tryd.ntmps111
    go_wp2
    go_ret
    exact ⟨rfl, hB.out⟩
set_option maxRecDepth 100000 in
set_option maxHeartbeats 4000000 in
theorem deed_no (k a b : Int) (d : Bool) (w : World) (n1 : (k == 1) = false) (n2 : (k == 2) = false) (n3 : (k == 3) = false) (n4 : (k == 4) = false) (n5 : (k == 5) = false) (n6 : (k == 6) = false) (n7 : (k == 7) = false) (n8 : (k == 8) = false) : Calls Tryd.prog 111 #[acV k a b d] w fun e w' => e = .returned .nilIface ∧ Below w.heap.size w w' := by
  have hB := hid ((Below.refl w.heap.size w).alloc (Nat.le_refl _) (.cells (acA k a b d) 68))
  go_enter Tryd.func111, Tryd.ntmps111
  go_wp2
  go_ret
  exact ⟨rfl, hB.out⟩
theorem deed_impl (k a b : Int) (d : Bool) (w : World) : Calls Tryd.prog 111 #[acV k a b d] w fun e w' => e = .returned (deedV k a b d) ∧ Below w.heap.size w w' := by
  by_cases k1 : k = 1
  · subst k1
    have e : deedV 1 a b d = .iface 191 (.agg #[.int .i64 a, .int .i64 b, .bool d]) := rfl
    rw [e]
    exact deed_key a b d w
  by_cases k2 : k = 2
  · subst k2; exact deed_2 a b d w
  by_cases k3 : k = 3
  · subst k3; exact deed_3 a b d w
  by_cases k4 : k = 4
  · subst k4; exact deed_4 a b d w
  by_cases k5 : k = 5
  · subst k5; exact deed_5 a b d w
  by_cases k6 : k = 6
  · subst k6; exact deed_6 a b d w
  by_cases k7 : k = 7
  · subst k7; exact deed_7 a b d w
  by_cases k8 : k = 8
  · subst k8; exact deed_8 a b d w
  have e : deedV k a b d = .nilIface := by simp [deedV, k1, k2, k3, k4, k5, k6, k7, k8]
  rw [e]
  exact deed_no k a b d w (by simpa using k1) (by simpa using k2) (by simpa using k3) (by simpa using k4) (by simpa using k5) (by simpa using k6) (by simpa using k7) (by simpa using k8)
end Go.Proofs.YtneagomkohoceabDoor
