/- The level of the sound chip: the program. -/
import Derived.Test.YtjdgfbaioafjcaaDoorYl
import Derived.Test.YtjdgfbaioafjcaaDoorYp
import Derived.Deep.RegionHeld3
import Derived.Deep.DeepCutAuto
namespace Go.Proofs.YtjdgfbaioafjcaaDoor
open Go.ChangeShapes Go.WideShapes Go.ChangeAt Go.RowKit
set_option linter.unusedVariables false
set_option linter.unusedSimpArgs false

theorem shapeN_min (e : Nat) (h : e < 32) : (if 15 < e then 31 - e else e : Nat) = min e (31 - e) := by
  split <;> omega
theorem envlev_impl (e sh : Nat) (w : World) (he : e < 32) (hs : sh < 4) : Calls Tryd.prog 59 #[.int .i64 (e : Int), .int .i64 (sh : Int)] w fun r w' => r = .returned (.int .i64 (shapeN sh e : Nat)) ∧ w' = w := by
  have rA : bits .and .i64 (e : Int) 15 = (Nat.land e 15 : Nat) := bAnd e 15 (by omega) (by omega)
  have hl : Nat.land e 15 ≤ 15 := Nat.and_le_right
  unfold shapeN
  generalize Nat.land e 15 = L at *
  rcases (by omega : sh = 0 ∨ sh = 1 ∨ sh = 2 ∨ sh = 3) with rfl | rfl | rfl | rfl
  · go_enter Tryd.func59, Tryd.ntmps59
    go_wp2
    go_ret
    exact ⟨by go_num, rfl⟩
  · go_enter Tryd.func59, Tryd.ntmps59
    go_wp2
    go_ret
    exact ⟨by go_num, rfl⟩
  · go_enter Tryd.func59, Tryd.ntmps59
    go_wp2
    go_ret
    exact ⟨by go_num, rfl⟩
  · rw [if_neg (by omega), if_pos rfl]
    by_cases h : 15 < e
    · rw [if_pos h]
      have k1 : ¬ (e : Int) ≤ 31 - (e : Int) := by omega
      go_enter Tryd.func59, Tryd.ntmps59
      go_wp2
      all_goals go_ret
      all_goals exact ⟨by first | rfl | go_num | omega, rfl⟩
    · rw [if_neg h]
      have k1 : (e : Int) ≤ 31 - (e : Int) := by omega
      go_enter Tryd.func59, Tryd.ntmps59
      go_wp2
      all_goals go_ret
      all_goals exact ⟨by first | rfl | go_num | omega, rfl⟩
theorem land16 : ∀ v : Nat, v < 32 → Nat.land v 16 = if 15 < v then 16 else 0 := by decide +kernel
set_option maxRecDepth 100000 in
theorem vol_impl (c : Sg) (k v e sh : Nat) (w : World) (hk : k < 2) (hv : v < 32) (he : e < 32) (hs : sh < 4) (h1 : c.reg (4 + k) = v) (h2 : c.env = e) (h3 : c.r7 = sh) : Calls Tryd.prog 55 #[sgV c, .int .i64 (k : Int)] w fun r w' => r = .returned (.int .i64 (volN sh e v : Nat)) ∧ Below w.heap.size w w' := by
  have hB := hid ((Below.refl w.heap.size w).alloc (Nat.le_refl _) (.cells (sgA c) 27))
  have q1 := Blk.new w (sgA c) 27
  have y4 := q1.cell (4 + k)
  rw [sgA_at c (4 + k) (by omega), h1] at y4
  have y7 : (w.alloc (.cells (sgA c) 27)).cell? ⟨w.heap.size, 7, none⟩ = some (.int .i64 c.r7) := q1.cell 7
  have y15 : (w.alloc (.cells (sgA c) 27)).cell? ⟨w.heap.size, 15, none⟩ = some (.int .i64 c.env) := q1.cell 15
  rw [h2] at y15
  rw [h3] at y7
  have rA : bits .and .i64 (v : Int) 16 = (Nat.land v 16 : Nat) := bAnd v 16 (by omega) (by omega)
  rw [land16 v hv] at rA
  clear q1 h1 h2 h3
  have e4 : Hid (((4 + k : Nat) : Int) = 4 + (k : Int)) := by show ((4 + k : Nat) : Int) = 4 + (k : Int); omega
  by_cases h : 15 < v
  · rw [if_pos h] at rA
    have hx : volN sh e v = shapeN sh e := if_pos h
    rw [hx]
    clear hx
    have hS := hid (fun w1 => envlev_impl e sh w1 he hs)
    generalize shapeN sh e = R at *
    rcases (by omega : k = 0 ∨ k = 1) with rfl | rfl
    all_goals
      go_enter Tryd.func55, Tryd.ntmps55
      go_upto_region 1 with fail
      obtain ⟨V, hV⟩ : ∃ V, w.alloc (.cells (sgA c) 27) = V := ⟨_, rfl⟩
      rw [hV] at y4 y7 y15 hB ⊢
      clear hV
      go_wp2_with (go_at_call 59; refine (hS.out _).mono ?_; rintro e w' ⟨rfl, hww⟩; obtain rfl := hww.symm)
      go_ret
      exact ⟨rfl, hB.out⟩
  · rw [if_neg h] at rA
    have hx : volN sh e v = v := if_neg h
    rw [hx]
    clear hx
    rcases (by omega : k = 0 ∨ k = 1) with rfl | rfl
    all_goals
      go_enter Tryd.func55, Tryd.ntmps55
      go_upto_region 1 with fail
      obtain ⟨V, hV⟩ : ∃ V, w.alloc (.cells (sgA c) 27) = V := ⟨_, rfl⟩
      rw [hV] at y4 y7 y15 hB ⊢
      clear hV
      go_wp2
      go_ret
      exact ⟨rfl, hB.out⟩
end Go.Proofs.YtjdgfbaioafjcaaDoor
