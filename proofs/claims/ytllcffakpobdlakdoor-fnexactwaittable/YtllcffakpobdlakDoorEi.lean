/- What the exact laws' helpers over rows of ints answer: two equal rows are told equal; a row is marked by numbers, and the marks are told held. -/
import Derived.Test.YtllcffakpobdlakDoorBase
import Derived.Deep.DrawnRows
namespace Go.Proofs.YtllcffakpobdlakDoor
open Go.ChangeShapes Go.WideShapes Go.ChangeAt Go.RowKit
set_option linter.unusedVariables false

/-- a row of ints from the start of block g -/
def IntsAt (w : World) (g len : Nat) (z : Nat → Int) : Prop := ∀ i, i < len → w.cell? ⟨g, i, none⟩ = some (.int .i64 (z i))
theorem IntsAt.below {w w' : World} {g len : Nat} {z : Nat → Int} (h : IntsAt w g len z) (hb : Below w.heap.size w w') : IntsAt w' g len z := by
  intro i hi
  have h1 := h i hi
  have h2 := World.block_lt_of_cell? w _ h1
  rw [hb.cell (p := ⟨g, i, none⟩) h2]
  exact h1
set_option maxRecDepth 100000 in
theorem eqi_yes (g g' len cap cap' : Nat) (z : Nat → Int) (w : World) (h : IntsAt w g len z) (h' : IntsAt w g' len z) (hl : len ≤ 1000000) :
    Calls Tryd.prog 7 #[.slice (some ⟨g, 0, none⟩) len cap, .slice (some ⟨g', 0, none⟩) len cap'] w fun e w' => e = .returned (.bool true) ∧ Below w.heap.size w w' := by
  replace h : Hid (IntsAt w g len z) := h
  replace h' : Hid (IntsAt w g' len z) := h'
  go_enter Tryd.func7, Tryd.ntmps7
  go_wp2
  go_loopw [5] (fun i wr => ∃ k : Nat, k ≤ len ∧ i = .int .i64 k ∧ Below w.heap.size w wr) (fun i _ => len - (intOf i).toNat)
  case atStart => exact ⟨0, by omega, rfl, Below.refl _ _⟩
  case round =>
    obtain ⟨k, hk, rfl, hbel⟩ := hrel
    by_cases hlt : k < len
    · have c1 := IntsAt.below h.out hbel k hlt
      have c2 := IntsAt.below h'.out hbel k hlt
      replace hbel : Hid _ := hbel
      go_wp2
      go_region
      go_wp2
      go_roundw
      case rel => exact ⟨k + 1, by omega, by go_num, hbel.out.drew⟩
      case measure => simp [intOf]; omega
    · obtain rfl : k = len := by omega
      go_wp2
      go_ret
      exact ⟨rfl, hbel⟩
set_option maxRecDepth 100000 in
theorem held_yes (g len cap : Nat) (m : Int) (w : World) (h : IntsAt w g len (fun i => m + (i : Int))) (hl : len ≤ 1000000) (hm0 : 0 ≤ m) (hm1 : m ≤ 1000000000) :
    Calls Tryd.prog 9 #[.slice (some ⟨g, 0, none⟩) len cap, .int .i64 m] w fun e w' => e = .returned (.int .i64 (m + (len : Int))) ∧ w' = w := by
  replace h : Hid (IntsAt w g len (fun i => m + (i : Int))) := h
  go_enter Tryd.func9, Tryd.ntmps9
  go_wp2
  go_loop [1, 5] (fun q i => ∃ k : Nat, k ≤ len ∧ i = .int .i64 k ∧ q = .int .i64 (m + (k : Int))) (fun _ i => len - (intOf i).toNat)
  case atStart => exact ⟨0, by omega, rfl, by simp⟩
  case round =>
    obtain ⟨k, hk, rfl, rfl⟩ := hrel
    by_cases hlt : k < len
    · have c1 : w.cell? ⟨g, k, none⟩ = some (.int .i64 (m + (k : Int))) := h.out k hlt
      obtain ⟨q, hq⟩ : ∃ q : Int, m + (k : Int) = q := ⟨_, rfl⟩
      rw [hq] at c1 ⊢
      have hq0 : 0 ≤ q ∧ q ≤ 2000000000 := by omega
      have hq1 : q + 1 = m + ((k + 1 : Nat) : Int) := by omega
      replace hq1 : Hid _ := hq1
      clear hq
      go_wp2
      go_round
      case rel => exact ⟨k + 1, by omega, by go_num, by rw [hq1.out]⟩
      case measure => simp [intOf]; omega
    · obtain rfl : k = len := by omega
      go_wp2
      go_ret
      exact ⟨rfl, rfl⟩
theorem grown_setI {w w' : World} {p off : Nat} {u : Value} (h : w.grownBy w' (some p)) : w.grownBy (w'.setCell ⟨p, off, none⟩ u) (some p) :=
  ⟨h.os, h.tape, h.output, by have := h.size; simpa [World.setCell] using this, fun k hk hne => by
    rw [Below.heap_setCell _ _ _ _ (fun e => hne (by rw [e]))]
    exact h.block k hk hne⟩
structure Marked (w wr : World) (g len : Nat) (m : Int) (j : Nat) : Prop where
  old : ∀ i, i < len → (wr.cell? ⟨g, i, none⟩).isSome = true
  new : ∀ i, i < j → wr.cell? ⟨g, i, none⟩ = some (.int .i64 (m + (i : Int)))
  ints : ∀ i, i < len → ∃ x : Int, wr.cell? ⟨g, i, none⟩ = some (.int .i64 x)
  fro : ∀ i, wr.frozen? ⟨g, i, none⟩ = false
  gro : w.grownBy wr (some g)
theorem Marked.step {w wr : World} {g len : Nat} {m : Int} {j : Nat} (h : Marked w wr g len m j) (hj : j < len) (q : Int) (hq : q = m + (j : Int)) : Marked w (wr.setCell ⟨g, j, none⟩ (.int .i64 q)) g len m (j + 1) := by
  subst hq
  have hs : (wr.setCell ⟨g, j, none⟩ (.int .i64 (m + (j : Int)))).cell? ⟨g, j, none⟩ = some (.int .i64 (m + (j : Int))) := World.cell?_setCell_same' _ _ _ (h.old j hj)
  have ho : ∀ i, i ≠ j → (wr.setCell ⟨g, j, none⟩ (.int .i64 (m + (j : Int)))).cell? ⟨g, i, none⟩ = wr.cell? ⟨g, i, none⟩ := fun i hi => World.cell?_setCell_other _ _ _ _ (by intro e; injection e with _ e2 _; exact hi e2.symm)
  refine ⟨fun i hi => ?_, fun i hi => ?_, fun i hi => ?_, fun i => by rw [World.frozen?_setCell]; exact h.fro i, grown_setI h.gro⟩
  · by_cases e : i = j
    · rw [e, hs]; rfl
    · rw [ho i e]; exact h.old i hi
  · by_cases e : i = j
    · rw [e, hs]
    · rw [ho i e]; exact h.new i (by omega)
  · by_cases e : i = j
    · exact ⟨_, by rw [e, hs]⟩
    · rw [ho i e]; exact h.ints i hi
set_option maxRecDepth 100000 in
theorem mark_yes (g len cap : Nat) (m : Int) (z : Nat → Int) (w : World) (h : IntsAt w g len z) (hf : ∀ i, w.frozen? ⟨g, i, none⟩ = false) (hl : len ≤ 1000000) (hm0 : 0 ≤ m) (hm1 : m ≤ 1000000000) :
    Calls Tryd.prog 8 #[.slice (some ⟨g, 0, none⟩) len cap, .int .i64 m] w fun e w' => e = .returned (.int .i64 (m + (len : Int))) ∧ IntsAt w' g len (fun i => m + (i : Int)) ∧ (∀ i, w'.frozen? ⟨g, i, none⟩ = false) ∧ w.grownBy w' (some g) := by
  have h0 : Hid (Marked w w g len m 0) := ⟨fun i hi => by rw [h i hi]; rfl, fun i hi => by omega, fun i hi => ⟨_, h i hi⟩, hf, World.grownBy.refl _ _⟩
  clear h hf
  go_enter Tryd.func8, Tryd.ntmps8
  go_wp2
  go_loopw [1, 5] (fun q i wr => ∃ k : Nat, k ≤ len ∧ i = .int .i64 k ∧ q = .int .i64 (m + (k : Int)) ∧ Marked w wr g len m k) (fun _ i _ => len - (intOf i).toNat)
  case atStart => exact ⟨0, by omega, rfl, by simp, h0.out⟩
  case round =>
    obtain ⟨k, hk, rfl, rfl, hM⟩ := hrel
    by_cases hlt : k < len
    · obtain ⟨x, hx⟩ := hM.ints k hlt
      have hfr := hM.fro k
      obtain ⟨q, hq⟩ : ∃ q : Int, m + (k : Int) = q := ⟨_, rfl⟩
      have hM2 : Hid (Marked w (wr.setCell ⟨g, k, none⟩ (.int .i64 q)) g len m (k + 1)) := hM.step hlt q hq.symm
      rw [hq]
      have hq0 : 0 ≤ q ∧ q ≤ 2000000000 := by omega
      have hq1 : Hid (q + 1 = m + ((k + 1 : Nat) : Int)) := by unfold Hid; omega
      clear hq hM
      go_wp2
      go_roundw
      case rel => exact ⟨k + 1, by omega, by go_num, by rw [hq1.out], hM2.out⟩
      case measure => simp [intOf]; omega
    · obtain rfl : k = len := by omega
      go_wp2
      go_ret
      exact ⟨rfl, hM.new, hM.fro, hM.gro⟩
end Go.Proofs.YtllcffakpobdlakDoor
