/- Cycles that are the same are told the same. -/
import Derived.Test.YtiidkhfigifmjaaJlu
import Derived.BigRegion
import Derived.Test.YtiidkhfigifmjaaU05
import Derived.Test.YtiidkhfigifmjaaU01
namespace Go.Proofs.Ytiidkhfigifmjaa
open Go.ChangeShapes Go.WideShapes Go.ChangeAt Go.RowKit
set_option linter.unusedVariables false
set_option linter.unusedSimpArgs false

theorem CyO.below {W W' : World} {v : Value} {l : List (Nat × Nat × Nat)} (h : CyO W v l) (hb : Below W.heap.size W W') : CyO W' v l := h.kept (fun b hd => hb.block b (h.lt b hd).2)
set_option maxRecDepth 100000 in
set_option maxHeartbeats 1000000 in
theorem samec (v v' : Value) (l : List (Nat × Nat × Nat)) (w : World) (h : CyO w v l) (h' : CyO w v' l) (hl : l.length ≤ 1000000) :
    Calls Try.prog 10 #[v, v'] w fun e w' => e = .returned (.bool true) ∧ Below w.heap.size w w' := by
  obtain ⟨a, cap, rfl⟩ := h.slice
  obtain ⟨a', cap', rfl⟩ := h'.slice
  have hK : Hid (∀ W', Below w.heap.size w W' → CyO W' (.slice a l.length cap) l ∧ CyO W' (.slice a' l.length cap') l) := fun W' hb => ⟨h.below hb, h'.below hb⟩
  clear h h'
  go_enter Try.func10, Try.ntmps10
  go_wp2
  go_loopw [5] (fun i wr => ∃ k : Nat, k ≤ l.length ∧ i = .int .i64 k ∧ Below w.heap.size w wr) (fun i _ => l.length - (intOf i).toNat)
  case atStart => exact ⟨0, by omega, rfl, Below.refl _ _⟩
  case round =>
    obtain ⟨k, hk, rfl, hB⟩ := hrel
    by_cases hlt : k < l.length
    · obtain ⟨g, rfl, _, c1, c2, c3⟩ := (hK.out _ hB).1.some hlt
      obtain ⟨g', rfl, _, d1, d2, d3⟩ := (hK.out _ hB).2.some hlt
      clear hK
      replace hB := hid hB
      generalize (l.getD k cyz).1 = x1 at *
      generalize (l.getD k cyz).2.1 = x2 at *
      generalize (l.getD k cyz).2.2 = x3 at *
      go_wp2_with fail
      go_region
      go_wp2
      go_roundw
      case rel => exact ⟨k + 1, by omega, by go_num, hB.out.drew⟩
      case measure => simp [intOf]; omega
    · obtain rfl : k = l.length := by omega
      replace hB := hid hB
      clear hK
      go_wp2
      go_ret
      exact ⟨rfl, hB.out⟩
end Go.Proofs.Ytiidkhfigifmjaa

/- What the specification answers whether two memories are alike. -/
namespace Go.Proofs.Ytiidkhfigifmjaa
open Go.ChangeShapes Go.WideShapes Go.ChangeAt Go.RowKit
set_option linter.unusedVariables false

/-- both are right, and alike -/
def sameM (A B : Mem) : Bool := okM A && okM B && decide (A.page = B.page) && decide (A.screen = B.screen) && (A.locked == B.locked) && decide (A.rom = B.rom) && decide (A.ram = B.ram)
theorem sameM_no {A B : Mem} (h : okM A = false ∨ okM B = false ∨ ¬ A.page = B.page ∨ ¬ A.screen = B.screen ∨ (A.locked == B.locked) = false ∨ ¬ A.rom = B.rom ∨ ¬ A.ram = B.ram) : sameM A B = false := by
  unfold sameM
  rcases h with h | h | h | h | h | h | h <;> simp [h]
theorem sameM_yes {A B : Mem} (h1 : okM A = true) (h2 : okM B = true) (h3 : A.page = B.page) (h4 : A.screen = B.screen) (h5 : (A.locked == B.locked) = true) (h6 : A.rom = B.rom) (h7 : A.ram = B.ram) : sameM A B = true := by
  unfold sameM
  rw [h1, h2, h5]
  simp [h3, h4, h6, h7]
theorem sameM_eq {A B : Mem} (h : sameM A B = true) : A = B ∧ okM A = true := by
  unfold sameM at h
  simp only [Bool.and_eq_true, decide_eq_true_eq, beq_iff_eq] at h
  obtain ⟨⟨⟨⟨⟨⟨h1, h2⟩, h3⟩, h4⟩, h5⟩, h6⟩, h7⟩ := h
  refine ⟨?_, h1⟩
  cases A
  cases B
  simp_all
end Go.Proofs.Ytiidkhfigifmjaa
