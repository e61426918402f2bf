/- What the laws do with a processor: copied, held against another. -/
import Derived.Test.YtneagomkohoceaaDoorHa
import Derived.Test.YtneagomkohoceaaDoorHi
namespace Go.Proofs.YtneagomkohoceaaDoor
open Go.ChangeShapes Go.WideShapes Go.ChangeAt Go.RowKit
set_option linter.unusedVariables false
set_option linter.unusedSimpArgs false

abbrev rgA (c : Cu) : Array Value := #[.int .i64 c.r0, .int .i64 c.r1, .int .i64 c.r2, .int .i64 c.r3, .int .i64 c.r4, .int .i64 c.r5, .int .i64 c.r6, .int .i64 c.r7]
abbrev rgV (c : Cu) : Value := .agg (rgA c)
theorem eight {k : Nat} (h : k < 8) : k = 0 ∨ k = 1 ∨ k = 2 ∨ k = 3 ∨ k = 4 ∨ k = 5 ∨ k = 6 ∨ k = 7 := by omega
def rgZ (c : Cu) (k i : Nat) : Value := .int .i64 (if i < k then c.reg i else 0)
def pt8 (c : Cu) (k : Nat) : Array Value := #[rgZ c k 0, rgZ c k 1, rgZ c k 2, rgZ c k 3, rgZ c k 4, rgZ c k 5, rgZ c k 6, rgZ c k 7]
abbrev z8 : Array Value := #[.int .i64 0, .int .i64 0, .int .i64 0, .int .i64 0, .int .i64 0, .int .i64 0, .int .i64 0, .int .i64 0]
theorem pt8_zero (c : Cu) : pt8 c 0 = z8 := rfl
theorem pt8_all (c : Cu) : pt8 c 8 = rgA c := rfl
theorem pt8_succ (c : Cu) (k : Nat) (hk : k < 8) : (pt8 c k).setIfInBounds k (.int .i64 (c.reg k)) = pt8 c (k + 1) := by
  rcases eight hk with rfl | rfl | rfl | rfl | rfl | rfl | rfl | rfl <;> rfl
theorem pt8_at (c : Cu) (k : Nat) (hk : k < 8) : (pt8 c k)[k]? = some (.int .i64 0) := by
  rcases eight hk with rfl | rfl | rfl | rfl | rfl | rfl | rfl | rfl <;> rfl
theorem rgA_at (c : Cu) (k : Nat) (hk : k < 8) : (rgA c)[k]? = some (.int .i64 (c.reg k)) := by
  rcases eight hk with rfl | rfl | rfl | rfl | rfl | rfl | rfl | rfl <;> rfl
set_option maxRecDepth 100000 in
theorem toa (c : Cu) (w : World) : Calls Tryd.prog 53 #[rgV c] w fun e w' => e = .returned (rgV c) ∧ Below w.heap.size w w' := by
  have hs := hid (Tri.start w (rgA c) z8 (pt8 c 0) 48 48 48)
  rw [pt8_zero] at hs
  go_enter Tryd.func53, Tryd.ntmps53
  go_wp2
  go_loopw [4] (fun i wr => ∃ k : Nat, k ≤ 8 ∧ i = .int .i64 k ∧ Tri w wr (rgA c) z8 (pt8 c k)) (fun i _ => 8 - (intOf i).toNat)
  case atStart => exact ⟨0, by omega, rfl, hs.out⟩
  case round =>
    obtain ⟨k, hk, rfl, hS⟩ := hrel
    clear hs
    by_cases hlt : k < 8
    · have x0 := hS.q0.cell k
      rw [rgA_at c k hlt] at x0
      have x2 := hS.q2.cell k
      rw [pt8_at c k hlt] at x2
      have f2 := hS.q2.frozen k
      have hn := hid (hS.put k (.int .i64 (c.reg k)))
      rw [pt8_succ c k hlt] at hn
      clear hS
      generalize c.reg k = y at *
      go_wp2
      go_roundw
      case rel => exact ⟨k + 1, by omega, by go_num, hn.out⟩
      case measure => simp [intOf]; omega
    · obtain rfl : k = 8 := by omega
      rw [pt8_all] at hS
      have x1 := hS.q1.cell
      have f1 := hS.q1.frozen
      have x2 := hS.q2.cell
      have hb := hid hS.bel
      clear hS
      go_wp2
      refine bodyPost_ret (v := rgV c) (by simp [results, Tryd.results53, go_sem, x1]) rfl ⟨rfl, ?_⟩
      iterate 8 refine Below.setCell ?_ (by first | omega | (simp; done) | (simp; omega)) _
      exact hb.out
set_option maxRecDepth 100000 in
set_option maxHeartbeats 1000000 in
theorem toc (c : Cu) (w : World) : Calls Tryd.prog 24 #[cuV c] w fun e w' => e = .returned (cuV c) ∧ Below w.heap.size w w' := by
  have hs := hid (Tri.start w (cuA c) zeC zeC 50 52 52)
  have x0 := hs.out.q0.cell
  go_enter Tryd.func24, Tryd.ntmps24
  go_upto_region 2 with fail
  obtain ⟨V, hV⟩ : ∃ V, (((w.alloc (.cells (cuA c) 50)).alloc (.cells zeC 52)).alloc (.cells zeC 52)) = V := ⟨_, rfl⟩
  rw [hV] at hs x0 ⊢
  clear hV
  go_wp2_with fail
  refine (toa c V).mono ?_
  rintro e w1 ⟨rfl, hb⟩
  have h1 := hid (hs.out.below hb)
  have y0 := h1.out.q0.cell
  have y1 := h1.out.q1.cell
  have y2 := h1.out.q2.cell
  have g1 := h1.out.q1.frozen
  have g2 := h1.out.q2.frozen
  have l1 := h1.out.q1.lt
  have l2 := h1.out.q2.lt
  have hB := hid h1.out.bel
  clear hs x0 hb h1
  go_wp2
  refine bodyPost_ret (v := cuV c) (by simp [results, Tryd.results24, go_sem, y1, y2]) rfl ⟨rfl, ?_⟩
  repeat refine Below.setCell ?_ (by first | omega | (simp; done) | (simp; omega)) _
  exact hB.out
end Go.Proofs.YtneagomkohoceaaDoor
