/- Conditions: what the specification and the program answer of them. -/
import Derived.Test.YtiidkhfigifmjaaDoorHa
import Derived.Test.YtiidkhfigifmjaaDoorHp
import Derived.Test.YtiidkhfigifmjaaDoorCpf
import Derived.LaidMore
import Derived.OpenShut
import Derived.Stop.Joined
namespace Go.Proofs.YtiidkhfigifmjaaDoor
open Go.ChangeShapes Go.WideShapes Go.ChangeAt Go.RowKit
set_option linter.unusedVariables false
set_option linter.unusedSimpArgs false

def hold2 (c : Cu) (k : Int) : Value := if okC c = true then (if inB k 0 7 = true then .tuple #[.bool (holdN c.f.toNat k.toNat), .int .i64 0] else .tuple #[.bool false, .int .i64 4]) else .tuple #[.bool false, .int .i64 1]
theorem okC_f {c : Cu} (h : okC c = true) : ∃ f : Nat, c.f = f ∧ f < 256 := by
  unfold okC at h
  simp only [Bool.and_eq_true] at h
  obtain ⟨⟨⟨⟨⟨_, _⟩, h3⟩, _⟩, _⟩, _⟩ := h
  simp [inB] at h3
  exact ⟨c.f.toNat, by omega, by omega⟩
theorem in7 {k : Int} (h : inB k 0 7 = true) : ∃ n : Nat, k = n ∧ n < 8 := by
  simp [inB] at h
  exact ⟨k.toNat, by omega, by omega⟩
set_option maxRecDepth 100000 in
set_option maxHeartbeats 1000000 in
theorem hold_spec (c : Cu) (k : Int) (w : World) : Calls Tryd.prog 6 #[cuV c, .int .i64 k] w fun e w' => e = .returned (hold2 c k) ∧ Below w.heap.size w w' := by
  have q := hid (Blk.new w (cuA c) 25)
  have hB := hid ((Below.refl w.heap.size w).alloc (Nat.le_refl _) (.cells (cuA c) 25))
  have x0 := q.out.cell
  have hok := hid (fun w1 => cpuok_spec c w1)
  cases hc : okC c
  · have e : hold2 c k = .tuple #[.bool false, .int .i64 1] := by unfold hold2; rw [hc]; rfl
    rw [e]
    rw [hc] at hok
    clear e
    go_enter Tryd.func6, Tryd.ntmps6
    go_upto_region 1 with fail
    obtain ⟨V, hV⟩ : ∃ V, w.alloc (Obj.cells (cuA c) 25) = V := ⟨_, rfl⟩
    rw [hV] at hB x0 ⊢
    clear hV q
    go_wp2_with fail
    refine (hok.out _).mono ?_
    rintro e w1 ⟨rfl, hb⟩
    have hb1 := hid (new_trans hB.out hb)
    clear hb hB x0
    go_wp2
    go_ret2
    exact ⟨rfl, hb1.out⟩
  · obtain ⟨f, hf, hf2⟩ := okC_f hc
    have e : hold2 c k = if inB k 0 7 = true then .tuple #[.bool (holdN f k.toNat), .int .i64 0] else .tuple #[.bool false, .int .i64 4] := by unfold hold2; rw [hc, if_pos rfl, hf, Int.toNat_natCast]
    rw [e]
    rw [hc] at hok
    clear e
    replace hf := hid hf
    cases h7 : inB k 0 7
    · have hI := hid (fun w => in_spec k 0 7 w)
      rw [h7] at hI
      rw [if_neg (by simp)]
      go_enter Tryd.func6, Tryd.ntmps6
      go_upto_region 1 with fail
      obtain ⟨V, hV⟩ : ∃ V, w.alloc (Obj.cells (cuA c) 25) = V := ⟨_, rfl⟩
      rw [hV] at hB x0 q ⊢
      clear hV
      go_wp2_with fail
      refine (hok.out _).mono ?_
      rintro e w1 ⟨rfl, hb⟩
      have hb1 := hid (new_trans hB.out hb)
      have x1 := (q.out.below hb q.out.lt).cell
      clear hb hB x0 q
      go_wp2_with (go_at_call 13; refine (hI.out _).mono ?_; rintro e w' ⟨rfl, hww⟩; obtain rfl := hww.symm)
      go_ret2
      exact ⟨rfl, hb1.out⟩
    · obtain ⟨n, rfl, hn⟩ := in7 h7
      have hI := hid (fun w => in_spec (n : Int) 0 7 w)
      rw [h7] at hI
      rw [if_pos rfl, Int.toNat_natCast]
      have hH := hid (fun w => holdsq_spec f n w hf2 hn)
      generalize holdN f n = b at *
      go_enter Tryd.func6, Tryd.ntmps6
      go_upto_region 1 with fail
      obtain ⟨V, hV⟩ : ∃ V, w.alloc (Obj.cells (cuA c) 25) = V := ⟨_, rfl⟩
      rw [hV] at hB x0 q ⊢
      clear hV
      go_wp2_with fail
      refine (hok.out _).mono ?_
      rintro e w1 ⟨rfl, hb⟩
      have hb1 := hid (new_trans hB.out hb)
      have x1 := (q.out.below hb q.out.lt).cell
      clear hb hB x0 q
      go_wp2_with (first | (go_at_call 13; refine (hI.out _).mono ?_; rintro e w' ⟨rfl, hww⟩; obtain rfl := hww.symm) | (go_at_call 14; (try rw [hf.out]); refine (hH.out _).mono ?_; rintro e w' ⟨rfl, hww⟩; obtain rfl := hww.symm))
      go_ret2
      exact ⟨rfl, hb1.out⟩
def ccF (k : Nat) : Nat := if k < 2 then 64 else if k < 4 then 1 else if k < 6 then 4 else if k = 6 then 128 else 0
def ccW (k : Nat) : Nat := if k = 1 then 64 else if k = 3 then 1 else if k = 5 then 4 else if k = 6 then 128 else 0
/-- the program's table of conditions, in its block -/
def CondH (w : World) : Prop := ∀ k, k < 8 → w.cell? ⟨0, k * 2, none⟩ = some (.int .i64 (ccF k : Int)) ∧ w.cell? ⟨0, k * 2 + 1, none⟩ = some (.int .i64 (ccW k : Int))
theorem CondH.below {w w' : World} (h : CondH w) (hb : Below w.heap.size w w') : CondH w' := fun k hk => by
  obtain ⟨h0, h1⟩ := h k hk
  have k0 := World.block_lt_of_cell? w _ h0
  refine ⟨?_, ?_⟩
  · rw [hb.cell (p := ⟨0, k * 2, none⟩) k0]; exact h0
  · rw [hb.cell (p := ⟨0, k * 2 + 1, none⟩) k0]; exact h1
theorem hold_cc (f k : Nat) (hk : k < 8) (hf : f < 256) : holdN f k = (((Nat.land f (ccF k) : Nat) : Int) == (ccW k : Int)) := by
  have h : ∀ f, f < 256 → ∀ k, k < 8 → holdN f k = Nat.beq (Nat.land f (ccF k)) (ccW k) := by decide +kernel
  rw [h f hf k hk, Bool.eq_iff_iff]
  simp
  omega
theorem holdsH_impl (f k : Nat) (w : World) (hC : CondH w) (hf : f < 256) (hk : k < 8) :
    Calls Tryd.prog 11 #[.int .i64 (f : Int), .int .i64 (k : Int)] w fun e w' => e = .returned (.bool (holdN f k)) ∧ Below w.heap.size w w' := by
  obtain ⟨h0, h1⟩ := hC k hk
  have r : bits .and .i64 (f : Int) (ccF k : Int) = ((Nat.land f (ccF k) : Nat) : Int) := bAnd f (ccF k) (by omega) (by unfold ccF; split; omega; split; omega; split; omega; split <;> omega)
  rw [hold_cc f k hk hf]
  generalize Nat.land f (ccF k) = A at *
  generalize ccF k = F at *
  generalize ccW k = X at *
  have k0 := World.block_lt_of_cell? w _ h0
  replace hC := hid hC
  go_enter Tryd.func11, Tryd.ntmps11
  go_wp2
  go_ret
  exact ⟨rfl, (Below.refl _ _).alloc (Nat.le_refl _) _⟩
theorem withinH_impl (n a b : Int) (w : World) : Calls Tryd.prog 10 #[.int .i64 n, .int .i64 a, .int .i64 b] w fun e w' => e = .returned (.bool (inB n a b)) ∧ w' = w := by
  go_enter Tryd.func10, Tryd.ntmps10
  go_wp2
  all_goals go_ret
  all_goals exact ⟨ret_bool (by rw [Bool.eq_iff_iff]; simp [inB]; try omega), rfl⟩
set_option maxRecDepth 100000 in
set_option maxHeartbeats 1000000 in
theorem hold_impl (c : Cu) (k : Int) (w : World) (hC : CondH w) : Calls Tryd.prog 5 #[cuV c, .int .i64 k] w fun e w' => e = .returned (hold2 c k) ∧ Below w.heap.size w w' := by
  have q := hid (Blk.new w (cuA c) 25)
  have hB := hid ((Below.refl w.heap.size w).alloc (Nat.le_refl _) (.cells (cuA c) 25))
  have x0 := q.out.cell
  have hok := hid (fun w1 => cpuok_impl c w1)
  replace hC := hid hC
  cases hc : okC c
  · have e : hold2 c k = .tuple #[.bool false, .int .i64 1] := by unfold hold2; rw [hc]; rfl
    rw [e]
    rw [hc] at hok
    clear e
    go_enter Tryd.func5, Tryd.ntmps5
    go_upto_region 1 with fail
    obtain ⟨V, hV⟩ : ∃ V, w.alloc (Obj.cells (cuA c) 25) = V := ⟨_, rfl⟩
    rw [hV] at hB x0 ⊢
    clear hV q
    go_wp2_with fail
    refine (hok.out _).mono ?_
    rintro e w1 ⟨rfl, hb⟩
    have hb1 := hid (new_trans hB.out hb)
    clear hb hB x0
    go_wp2
    go_ret2
    exact ⟨rfl, hb1.out⟩
  · obtain ⟨f, hf, hf2⟩ := okC_f hc
    have e : hold2 c k = if inB k 0 7 = true then .tuple #[.bool (holdN f k.toNat), .int .i64 0] else .tuple #[.bool false, .int .i64 4] := by unfold hold2; rw [hc, if_pos rfl, hf, Int.toNat_natCast]
    rw [e]
    rw [hc] at hok
    clear e
    replace hf := hid hf
    cases h7 : inB k 0 7
    · have hI := hid (fun w => withinH_impl k 0 7 w)
      rw [h7] at hI
      rw [if_neg (by simp)]
      go_enter Tryd.func5, Tryd.ntmps5
      go_upto_region 1 with fail
      obtain ⟨V, hV⟩ : ∃ V, w.alloc (Obj.cells (cuA c) 25) = V := ⟨_, rfl⟩
      rw [hV] at hB x0 q ⊢
      clear hV
      go_wp2_with fail
      refine (hok.out _).mono ?_
      rintro e w1 ⟨rfl, hb⟩
      have hb1 := hid (new_trans hB.out hb)
      have x1 := (q.out.below hb q.out.lt).cell
      clear hb hB x0 q
      go_wp2_with (go_at_call 10; refine (hI.out _).mono ?_; rintro e w' ⟨rfl, hww⟩; obtain rfl := hww.symm)
      go_ret2
      exact ⟨rfl, hb1.out⟩
    · obtain ⟨n, rfl, hn⟩ := in7 h7
      have hI := hid (fun w => withinH_impl (n : Int) 0 7 w)
      rw [h7] at hI
      rw [if_pos rfl, Int.toNat_natCast]
      have hH := hid (fun w1 hb => holdsH_impl f n w1 (hC.out.below hb) hf2 hn)
      generalize holdN f n = b at *
      go_enter Tryd.func5, Tryd.ntmps5
      go_upto_region 1 with fail
      obtain ⟨V, hV⟩ : ∃ V, w.alloc (Obj.cells (cuA c) 25) = V := ⟨_, rfl⟩
      rw [hV] at hB x0 q ⊢
      clear hV
      go_wp2_with fail
      refine (hok.out _).mono ?_
      rintro e w1 ⟨rfl, hb⟩
      have hb1 := hid (new_trans hB.out hb)
      have x1 := (q.out.below hb q.out.lt).cell
      clear hb hB x0 q
      go_wp2_with (go_at_call 10; refine (hI.out _).mono ?_; rintro e w' ⟨rfl, hww⟩; obtain rfl := hww.symm)
      (try rw [hf.out])
      refine (hH.out _ hb1.out).mono ?_
      rintro e w2 ⟨rfl, hb⟩
      have hb2 := hid (new_trans hb1.out hb)
      clear hb hb1
      go_wp2
      go_ret2
      exact ⟨rfl, hb2.out⟩
end Go.Proofs.YtiidkhfigifmjaaDoor
