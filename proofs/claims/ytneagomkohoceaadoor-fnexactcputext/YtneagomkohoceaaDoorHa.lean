/- What the specification says of a processor that is right. -/
import Derived.Test.YtneagomkohoceaaDoorBl
import Derived.Test.YtneagomkohoceaaDoorMf
import Derived.Deep.Cut
namespace Go.Proofs.YtneagomkohoceaaDoor
open Go.ChangeShapes Go.WideShapes Go.ChangeAt Go.RowKit
set_option linter.unusedVariables false
set_option linter.unusedSimpArgs false

/-- a processor as it comes in: any numbers -/
structure Cu where
  r0 : Int
  r1 : Int
  r2 : Int
  r3 : Int
  r4 : Int
  r5 : Int
  r6 : Int
  r7 : Int
  f : Int
  sp : Int
  pc : Int
  iff : Bool
  ei : Bool
  halt : Bool
abbrev cuA (c : Cu) : Array Value := #[.int .i64 c.r0, .int .i64 c.r1, .int .i64 c.r2, .int .i64 c.r3, .int .i64 c.r4, .int .i64 c.r5, .int .i64 c.r6, .int .i64 c.r7, .int .i64 c.f, .int .i64 c.sp, .int .i64 c.pc, .bool c.iff, .bool c.ei, .bool c.halt]
abbrev cuV (c : Cu) : Value := .agg (cuA c)
def Cu.reg (c : Cu) : Nat → Int
  | 0 => c.r0
  | 1 => c.r1
  | 2 => c.r2
  | 3 => c.r3
  | 4 => c.r4
  | 5 => c.r5
  | 6 => c.r6
  | _ => c.r7
def regsB (c : Cu) : Bool := (List.range 8).all (fun i => inB (c.reg i) 0 255)
def okC (c : Cu) : Bool := regsB c && decide (c.r6 = 0) && inB c.f 0 255 && inB c.sp 0 255 && inB c.pc 0 255 && (!c.ei || c.iff)
theorem regs_no {c : Cu} {k : Nat} (hk : k < 8) (h : inB (c.reg k) 0 255 = false) : okC c = false := by
  have : regsB c = false := by
    unfold regsB
    rw [List.all_eq_false]
    exact ⟨k, List.mem_range.2 hk, by simp [h]⟩
  simp [okC, this]
theorem regs_all {c : Cu} (h : ∀ i, i < 8 → inB (c.reg i) 0 255 = true) : regsB c = true := by
  unfold regsB
  rw [List.all_eq_true]
  exact fun i hi => h i (List.mem_range.1 hi)
set_option maxRecDepth 100000 in
set_option maxHeartbeats 1000000 in
theorem cpuok_spec (c : Cu) (w : World) : Calls Tryd.prog 51 #[cuV c] w fun e w' => e = .returned (.bool (okC c)) ∧ Below w.heap.size w w' := by
  have hno : Hid (∀ k, k < 8 → inB (c.reg k) 0 255 = false → okC c = false) := fun k hk => regs_no hk
  have hall : Hid ((∀ i, i < 8 → inB (c.reg i) 0 255 = true) → okC c = (decide (c.r6 = 0) && inB c.f 0 255 && inB c.sp 0 255 && inB c.pc 0 255 && (!c.ei || c.iff))) := fun h => by unfold okC; rw [regs_all h, Bool.true_and]
  have hB := hid ((Below.refl w.heap.size w).alloc (Nat.le_refl _) (.cells (cuA c) 52))
  have q1 := (Blk.new w (cuA c) 52).cell
  obtain ⟨Q, hQ⟩ : ∃ Q, okC c = Q := ⟨_, rfl⟩
  rw [hQ] at hno hall ⊢
  clear hQ
  go_enter Tryd.func51, Tryd.ntmps51
  go_upto_region 1 with fail
  obtain ⟨V, hV⟩ : ∃ V, w.alloc (Obj.cells (cuA c) 52) = V := ⟨_, rfl⟩
  rw [hV] at hB q1 ⊢
  clear hV
  go_wp2
  go_loop [3] (fun i => ∃ k : Nat, k ≤ 8 ∧ i = .int .i64 k ∧ ∀ j, j < k → inB (c.reg j) 0 255 = true) (fun i => 8 - (intOf i).toNat)
  case atStart => exact ⟨0, by omega, rfl, fun j hj => by omega⟩
  case round =>
    obtain ⟨k, hk, rfl, hj⟩ := hrel
    by_cases hlt : k < 8
    · have hk8 : k = 0 ∨ k = 1 ∨ k = 2 ∨ k = 3 ∨ k = 4 ∨ k = 5 ∨ k = 6 ∨ k = 7 := by omega
      cases hb : inB (c.reg k) 0 255
      · have hE := hid (hno.out k hlt hb)
        clear hj hno hall hk hlt
        rcases hk8 with rfl | rfl | rfl | rfl | rfl | rfl | rfl | rfl
        all_goals
          simp only [Cu.reg] at hb
          go_wp2_with (go_at_call 76; refine (byteM_spec _ _).mono ?_; rintro e w' ⟨rfl, rfl⟩; rw [hb])
          go_ret
          exact ⟨ret_bool hE.out.symm, hB.out⟩
      · have hj2 : Hid (∀ j, j < k + 1 → inB (c.reg j) 0 255 = true) := fun j hj1 => by
          by_cases e : j = k
          · rw [e]; exact hb
          · exact hj j (by omega)
        clear hj hno hall hk hlt
        rcases hk8 with rfl | rfl | rfl | rfl | rfl | rfl | rfl | rfl
        all_goals
          simp only [Cu.reg] at hb
          go_wp2_with (go_at_call 76; refine (byteM_spec _ _).mono ?_; rintro e w' ⟨rfl, rfl⟩; rw [hb])
          go_round
          case rel => exact ⟨_, by omega, by go_num, hj2.out⟩
          case measure => simp [intOf]
    · obtain rfl : k = 8 := by omega
      have hE := hall.out hj
      clear hj hno hall hk hlt
      by_cases h6 : c.r6 = 0
      · have h62 : (c.r6 == 0) = true := by simp [h6]
        rw [decide_eq_true h6, Bool.true_and] at hE
        clear h6
        cases h1 : inB c.f 0 255
        · rw [h1] at hE
          replace hE := hid hE
          go_wp2_with (go_at_call 76; refine (byteM_spec _ _).mono ?_; rintro e w' ⟨rfl, rfl⟩; rw [h1])
          go_ret
          exact ⟨ret_bool (by rw [hE.out]; rfl), hB.out⟩
        · cases h2 : inB c.sp 0 255
          · rw [h1, h2] at hE
            replace hE := hid hE
            go_wp2_with (go_at_call 76; refine (byteM_spec _ _).mono ?_; rintro e w' ⟨rfl, rfl⟩; first | rw [h1] | rw [h2])
            go_ret
            exact ⟨ret_bool (by rw [hE.out]; rfl), hB.out⟩
          · cases h3 : inB c.pc 0 255
            · rw [h1, h2, h3] at hE
              replace hE := hid hE
              go_wp2_with (go_at_call 76; refine (byteM_spec _ _).mono ?_; rintro e w' ⟨rfl, rfl⟩; first | rw [h1] | rw [h2] | rw [h3])
              go_ret
              exact ⟨ret_bool (by rw [hE.out]; rfl), hB.out⟩
            · rw [h1, h2, h3] at hE
              cases h4 : c.ei
              · rw [h4] at hE
                replace hE := hid hE
                go_wp2_with (go_at_call 76; refine (byteM_spec _ _).mono ?_; rintro e w' ⟨rfl, rfl⟩; first | rw [h1] | rw [h2] | rw [h3])
                go_ret
                exact ⟨ret_bool (by rw [hE.out]; rfl), hB.out⟩
              · rw [h4] at hE
                replace hE := hid hE
                go_wp2_with (go_at_call 76; refine (byteM_spec _ _).mono ?_; rintro e w' ⟨rfl, rfl⟩; first | rw [h1] | rw [h2] | rw [h3])
                go_ret
                exact ⟨ret_bool (by rw [hE.out]; simp), hB.out⟩
      · have h62 : (c.r6 == 0) = false := by simp [h6]
        rw [decide_eq_false h6, Bool.false_and, Bool.false_and, Bool.false_and, Bool.false_and] at hE
        replace hE := hid hE
        clear h6
        go_wp2
        go_ret
        exact ⟨ret_bool (by rw [hE.out]), hB.out⟩
end Go.Proofs.YtneagomkohoceaaDoor
