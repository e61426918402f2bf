/- A processor's text: plain, and the specification. -/
import Derived.Test.YtneagomkohoceaaDoorTxn
import Derived.Test.YtneagomkohoceaaDoorWfc
import Derived.Test.YtneagomkohoceaaDoorHa
import Derived.Laws.Runes
namespace Go.Proofs.YtneagomkohoceaaDoor
open Go.ChangeShapes Go.WideShapes Go.ChangeAt Go.RowKit
set_option linter.unusedVariables false
set_option linter.unusedSimpArgs false

def rgL : List (List UInt8) := [[98], [99], [100], [101], [104], [108], [], [97]]
def rgW (i : Nat) : ByteArray := ⟨(rgL.getD i []).toArray⟩
def spT (c : Cu) : Nat → ByteArray
  | 0 => ⟨#[]⟩
  | i + 1 => if i = 6 then spT c i else spT c i ++ (rgW i ++ hxB (c.reg i) ++ ⟨#[32]⟩)
def txA (c : Cu) : ByteArray := spT c 8 ++ (⟨#[102]⟩ ++ hxB c.f ++ ⟨#[32, 115, 112]⟩ ++ hxB c.sp ++ ⟨#[32, 112, 99]⟩ ++ hxB c.pc)
def txB1 (c : Cu) : ByteArray := if c.iff = true then txA c ++ ⟨#[32, 101, 105]⟩ else txA c
def txC (c : Cu) : ByteArray := if c.halt = true then txB1 c ++ ⟨#[32, 104, 97, 108, 116]⟩ else txB1 c
def cpuT2 (c : Cu) : Value := if okC c = true then .tuple #[.string (txC c), .int .i64 0] else .tuple #[.string ⟨#[]⟩, .int .i64 1]
theorem rgW_size : ∀ i, i < 8 → (rgW i).size ≤ 1 := by decide +kernel
theorem spT_size (c : Cu) : ∀ i, i ≤ 8 → (spT c i).size ≤ 4 * i
  | 0, _ => Nat.le_refl 0
  | i + 1, h => by
    have ih := spT_size c i (by omega)
    have hr := rgW_size i (by omega)
    have hh := hxB_size (c.reg i)
    have hs : (⟨#[32]⟩ : ByteArray).size = 1 := rfl
    unfold spT
    split
    · omega
    · rw [ByteArray.size_append, ByteArray.size_append, ByteArray.size_append, hh, hs]
      omega
theorem okC_bd {c : Cu} (h : okC c = true) : (∀ k, k < 8 → 0 ≤ c.reg k ∧ c.reg k ≤ 255) ∧ (0 ≤ c.f ∧ c.f ≤ 255) ∧ (0 ≤ c.sp ∧ c.sp ≤ 255) ∧ (0 ≤ c.pc ∧ c.pc ≤ 255) := by
  have hr : ∀ k, k < 8 → inB (c.reg k) 0 255 = true := fun k hk => by
    cases hx : inB (c.reg k) 0 255
    · rw [regs_no hk hx] at h; cases h
    · rfl
  unfold okC at h
  simp only [Bool.and_eq_true] at h
  obtain ⟨⟨⟨⟨_, h1⟩, h2⟩, h3⟩, _⟩ := h
  refine ⟨fun k hk => ?_, ?_, ?_, ?_⟩
  · have := hr k hk; unfold inB at this; simpa using this
  · unfold inB at h1; simpa using h1
  · unfold inB at h2; simpa using h2
  · unfold inB at h3; simpa using h3
set_option maxRecDepth 100000 in
set_option maxHeartbeats 4000000 in
theorem lcpu_spec (c : Cu) (w : World) (hok : okC c = true) : Calls Tryd.prog 52 #[cuV c] w fun e w' => e = .returned (.string (txC c)) ∧ Below w.heap.size w w' := by
  have hb0 := hid ((Below.refl w.heap.size w).alloc (Nat.le_refl _) (.cells (cuA c) 52))
  have hq0 := hid (Blk.new w (cuA c) 52)
  obtain ⟨hr, hf, hs, hp⟩ := okC_bd hok
  clear hok
  have hR : Hid (∀ k, k < 8 → ∀ W, Calls Tryd.prog 77 #[.int .i64 (c.reg k)] W fun e w' => e = .returned (.string (hxB (c.reg k))) ∧ Below W.heap.size W w') := fun k hk W => hexb_spec _ W (hr k hk).1 (hr k hk).2
  have hF := hid (fun W => hexb_spec c.f W hf.1 hf.2)
  have hS := hid (fun W => hexb_spec c.sp W hs.1 hs.2)
  have hP := hid (fun W => hexb_spec c.pc W hp.1 hp.2)
  have hsz := hid (spT_size c)
  have hE : Hid (spT c 8 ++ (⟨#[102]⟩ ++ hxB c.f ++ ⟨#[32, 115, 112]⟩ ++ hxB c.sp ++ ⟨#[32, 112, 99]⟩ ++ hxB c.pc) = txA c) := rfl
  have hA : Hid ((txA c).size ≤ 50) := by
    have h1 := spT_size c 8 (by omega)
    have e1 : (⟨#[102]⟩ : ByteArray).size = 1 := rfl
    have e2 : (⟨#[32, 115, 112]⟩ : ByteArray).size = 3 := rfl
    have e3 : (⟨#[32, 112, 99]⟩ : ByteArray).size = 3 := rfl
    unfold txA Hid
    simp only [ByteArray.size_append, hxB_size, e1, e2, e3]
    omega
  have hfs := hxB_size c.f
  have hss := hxB_size c.sp
  have hps := hxB_size c.pc
  go_enter Tryd.func52, Tryd.ntmps52
  go_wp2
  go_loopw [3, 4] (fun t i wr => ∃ j : Nat, j ≤ 8 ∧ i = .int .i64 j ∧ t = .string (spT c j) ∧ Blk wr w.heap.size (cuA c) ∧ Below w.heap.size w wr) (fun _ i _ => 8 - (intOf i).toNat)
  case atStart => exact ⟨0, by omega, rfl, rfl, hq0.out, hb0.out⟩
  case round =>
    obtain ⟨j, hj, rfl, rfl, hq, hb⟩ := hrel
    have hq : Hid (Blk wr w.heap.size (cuA c) ∧ Below w.heap.size w wr) := ⟨hq, hb⟩
    clear hb
    by_cases hlt : j < 8
    · have hz := hsz.out j (by omega)
      have hnx : Hid (j ≠ 6 → spT c j ++ (rgW j ++ hxB (c.reg j) ++ ⟨#[32]⟩) = spT c (j + 1)) := fun h => by show _ = (if j = 6 then _ else _); rw [if_neg h]
      have h6 : Hid (j = 6 → spT c j = spT c (j + 1)) := fun h => by show _ = (if j = 6 then _ else _); rw [if_pos h]
      have hX := hid (hR.out j hlt)
      have hXs := hxB_size (c.reg j)
      clear hR
      generalize hT : spT c j = T at *
      generalize hT2 : spT c (j + 1) = T2 at *
      replace hT := hid hT
      replace hT2 := hid hT2
      have hj8 : j = 0 ∨ j = 1 ∨ j = 2 ∨ j = 3 ∨ j = 4 ∨ j = 5 ∨ j = 6 ∨ j = 7 := by omega
      rcases hj8 with rfl | rfl | rfl | rfl | rfl | rfl | rfl | rfl
      case inr.inr.inr.inr.inr.inr.inl =>
        go_wp2
        go_roundw
        case rel => exact ⟨7, by omega, by go_num, by rw [← hT2.out] at h6; rw [h6.out rfl], hq.out.1, hq.out.2⟩
        case measure => simp [intOf]
      · have hN : Hid (T ++ (⟨#[98]⟩ ++ hxB c.r0 ++ ⟨#[32]⟩) = T2) := hnx.out (by decide)
        have hX2 : Hid (∀ W, Calls Tryd.prog 77 #[.int .i64 c.r0] W fun e w' => e = .returned (.string (hxB c.r0)) ∧ Below W.heap.size W w') := hX
        have hXs2 : (hxB c.r0).size = 2 := hXs
        clear hnx h6 hX hXs
        generalize hxB c.r0 = HX at *
        have z1 : ¬ 9223372036854775807 < 1 + HX.size := by omega
        have z2 : ¬ 9223372036854775807 < 1 + HX.size + 1 := by omega
        have z3 : ¬ 9223372036854775807 < T.size + (1 + HX.size + 1) := by omega
        have z4 : ¬ 9223372036854775807 < T.size + 4 := by omega
        go_wp2_with fail
        go_upto_region 6 with fail
        refine calm_regionK 13 (fun W => Hid (Blk W w.heap.size (cuA c) ∧ Below w.heap.size w W)) (fun _ => True) (by kernel_rfl) (by kernel_rfl) (by kernel_rfl) (by kernel_rfl) (by kernel_rfl) (by kernel_rfl) (⟨hq.out.1.below (Below.refl _ _).drew hq.out.1.lt, hq.out.2.drew⟩) ?_
        iterate 2 (refine calm_take (v := ?_) (by decide) (by kernel_rfl) (by kernel_rfl) ?_ ?_; rotate_left; (focus (intro W hW; have y0 := hW.out.1.cell; go_simp; first | done | with_reducible rfl)); (try simp only [Act.put, List.setIfInBounds_toArray, List.set_cons_zero, List.set_cons_succ]))
        refine calm_take (v := .int .u8 98) (by decide) (by kernel_rfl) (by kernel_rfl) ?_ ?_; (focus (intro W hW; kernel_rfl)); (try simp only [Act.put, List.setIfInBounds_toArray, List.set_cons_zero, List.set_cons_succ])
        refine calm_take (v := .string ⟨#[98]⟩) (by decide) (by kernel_rfl) (by kernel_rfl) ?_ ?_; (focus (intro W hW; kernel_rfl)); (try simp only [Act.put, List.setIfInBounds_toArray, List.set_cons_zero, List.set_cons_succ])
        iterate 4 (refine calm_take (v := ?_) (by decide) (by kernel_rfl) (by kernel_rfl) ?_ ?_; rotate_left; (focus (intro W hW; have y0 := hW.out.1.cell; go_simp; first | done | with_reducible rfl)); (try simp only [Act.put, List.setIfInBounds_toArray, List.set_cons_zero, List.set_cons_succ]))
        refine calm_call (f := 77) (args := #[.int .i64 c.r0]) (.string HX) (by decide) (by kernel_rfl) (by kernel_rfl) ?_ ?_ ?_; (focus (intro W; go_simp; first | done | with_reducible rfl)); (focus (intro W hW; exact (hX2.out W).mono (fun r W' hr => ⟨hr.1, hW.out.1.below hr.2 hW.out.1.lt, new_trans hW.out.2 hr.2⟩))); (try simp only [Act.put, List.setIfInBounds_toArray, List.set_cons_zero, List.set_cons_succ])
        iterate 4 (refine calm_take (v := ?_) (by decide) (by kernel_rfl) (by kernel_rfl) ?_ ?_; rotate_left; (focus (intro W hW; have y0 := hW.out.1.cell; go_simp; first | done | with_reducible rfl)); (try simp only [Act.put, List.setIfInBounds_toArray, List.set_cons_zero, List.set_cons_succ]))
        refine calm_end (fun W hW => ?_)
        have hq2 := hid (show Blk W w.heap.size (cuA c) ∧ Below w.heap.size w W from hW.out)
        clear hW hq hX2 z1 z2 z3
        go_wp2
        go_roundw
        case rel => exact ⟨1, by omega, by go_num, by rw [hT2.out, ← hN.out], hq2.out.1, hq2.out.2⟩
        case measure => simp [intOf]
      · have hN : Hid (T ++ (⟨#[99]⟩ ++ hxB c.r1 ++ ⟨#[32]⟩) = T2) := hnx.out (by decide)
        have hX2 : Hid (∀ W, Calls Tryd.prog 77 #[.int .i64 c.r1] W fun e w' => e = .returned (.string (hxB c.r1)) ∧ Below W.heap.size W w') := hX
        have hXs2 : (hxB c.r1).size = 2 := hXs
        clear hnx h6 hX hXs
        generalize hxB c.r1 = HX at *
        have z1 : ¬ 9223372036854775807 < 1 + HX.size := by omega
        have z2 : ¬ 9223372036854775807 < 1 + HX.size + 1 := by omega
        have z3 : ¬ 9223372036854775807 < T.size + (1 + HX.size + 1) := by omega
        have z4 : ¬ 9223372036854775807 < T.size + 4 := by omega
        go_wp2_with fail
        go_upto_region 6 with fail
        refine calm_regionK 13 (fun W => Hid (Blk W w.heap.size (cuA c) ∧ Below w.heap.size w W)) (fun _ => True) (by kernel_rfl) (by kernel_rfl) (by kernel_rfl) (by kernel_rfl) (by kernel_rfl) (by kernel_rfl) (⟨hq.out.1.below (Below.refl _ _).drew hq.out.1.lt, hq.out.2.drew⟩) ?_
        iterate 2 (refine calm_take (v := ?_) (by decide) (by kernel_rfl) (by kernel_rfl) ?_ ?_; rotate_left; (focus (intro W hW; have y0 := hW.out.1.cell; go_simp; first | done | with_reducible rfl)); (try simp only [Act.put, List.setIfInBounds_toArray, List.set_cons_zero, List.set_cons_succ]))
        refine calm_take (v := .int .u8 99) (by decide) (by kernel_rfl) (by kernel_rfl) ?_ ?_; (focus (intro W hW; kernel_rfl)); (try simp only [Act.put, List.setIfInBounds_toArray, List.set_cons_zero, List.set_cons_succ])
        refine calm_take (v := .string ⟨#[99]⟩) (by decide) (by kernel_rfl) (by kernel_rfl) ?_ ?_; (focus (intro W hW; kernel_rfl)); (try simp only [Act.put, List.setIfInBounds_toArray, List.set_cons_zero, List.set_cons_succ])
        iterate 4 (refine calm_take (v := ?_) (by decide) (by kernel_rfl) (by kernel_rfl) ?_ ?_; rotate_left; (focus (intro W hW; have y0 := hW.out.1.cell; go_simp; first | done | with_reducible rfl)); (try simp only [Act.put, List.setIfInBounds_toArray, List.set_cons_zero, List.set_cons_succ]))
        refine calm_call (f := 77) (args := #[.int .i64 c.r1]) (.string HX) (by decide) (by kernel_rfl) (by kernel_rfl) ?_ ?_ ?_; (focus (intro W; go_simp; first | done | with_reducible rfl)); (focus (intro W hW; exact (hX2.out W).mono (fun r W' hr => ⟨hr.1, hW.out.1.below hr.2 hW.out.1.lt, new_trans hW.out.2 hr.2⟩))); (try simp only [Act.put, List.setIfInBounds_toArray, List.set_cons_zero, List.set_cons_succ])
        iterate 4 (refine calm_take (v := ?_) (by decide) (by kernel_rfl) (by kernel_rfl) ?_ ?_; rotate_left; (focus (intro W hW; have y0 := hW.out.1.cell; go_simp; first | done | with_reducible rfl)); (try simp only [Act.put, List.setIfInBounds_toArray, List.set_cons_zero, List.set_cons_succ]))
        refine calm_end (fun W hW => ?_)
        have hq2 := hid (show Blk W w.heap.size (cuA c) ∧ Below w.heap.size w W from hW.out)
        clear hW hq hX2 z1 z2 z3
        go_wp2
        go_roundw
        case rel => exact ⟨2, by omega, by go_num, by rw [hT2.out, ← hN.out], hq2.out.1, hq2.out.2⟩
        case measure => simp [intOf]
      · have hN : Hid (T ++ (⟨#[100]⟩ ++ hxB c.r2 ++ ⟨#[32]⟩) = T2) := hnx.out (by decide)
        have hX2 : Hid (∀ W, Calls Tryd.prog 77 #[.int .i64 c.r2] W fun e w' => e = .returned (.string (hxB c.r2)) ∧ Below W.heap.size W w') := hX
        have hXs2 : (hxB c.r2).size = 2 := hXs
        clear hnx h6 hX hXs
        generalize hxB c.r2 = HX at *
        have z1 : ¬ 9223372036854775807 < 1 + HX.size := by omega
        have z2 : ¬ 9223372036854775807 < 1 + HX.size + 1 := by omega
        have z3 : ¬ 9223372036854775807 < T.size + (1 + HX.size + 1) := by omega
        have z4 : ¬ 9223372036854775807 < T.size + 4 := by omega
        go_wp2_with fail
        go_upto_region 6 with fail
        refine calm_regionK 13 (fun W => Hid (Blk W w.heap.size (cuA c) ∧ Below w.heap.size w W)) (fun _ => True) (by kernel_rfl) (by kernel_rfl) (by kernel_rfl) (by kernel_rfl) (by kernel_rfl) (by kernel_rfl) (⟨hq.out.1.below (Below.refl _ _).drew hq.out.1.lt, hq.out.2.drew⟩) ?_
        iterate 2 (refine calm_take (v := ?_) (by decide) (by kernel_rfl) (by kernel_rfl) ?_ ?_; rotate_left; (focus (intro W hW; have y0 := hW.out.1.cell; go_simp; first | done | with_reducible rfl)); (try simp only [Act.put, List.setIfInBounds_toArray, List.set_cons_zero, List.set_cons_succ]))
        refine calm_take (v := .int .u8 100) (by decide) (by kernel_rfl) (by kernel_rfl) ?_ ?_; (focus (intro W hW; kernel_rfl)); (try simp only [Act.put, List.setIfInBounds_toArray, List.set_cons_zero, List.set_cons_succ])
        refine calm_take (v := .string ⟨#[100]⟩) (by decide) (by kernel_rfl) (by kernel_rfl) ?_ ?_; (focus (intro W hW; kernel_rfl)); (try simp only [Act.put, List.setIfInBounds_toArray, List.set_cons_zero, List.set_cons_succ])
        iterate 4 (refine calm_take (v := ?_) (by decide) (by kernel_rfl) (by kernel_rfl) ?_ ?_; rotate_left; (focus (intro W hW; have y0 := hW.out.1.cell; go_simp; first | done | with_reducible rfl)); (try simp only [Act.put, List.setIfInBounds_toArray, List.set_cons_zero, List.set_cons_succ]))
        refine calm_call (f := 77) (args := #[.int .i64 c.r2]) (.string HX) (by decide) (by kernel_rfl) (by kernel_rfl) ?_ ?_ ?_; (focus (intro W; go_simp; first | done | with_reducible rfl)); (focus (intro W hW; exact (hX2.out W).mono (fun r W' hr => ⟨hr.1, hW.out.1.below hr.2 hW.out.1.lt, new_trans hW.out.2 hr.2⟩))); (try simp only [Act.put, List.setIfInBounds_toArray, List.set_cons_zero, List.set_cons_succ])
        iterate 4 (refine calm_take (v := ?_) (by decide) (by kernel_rfl) (by kernel_rfl) ?_ ?_; rotate_left; (focus (intro W hW; have y0 := hW.out.1.cell; go_simp; first | done | with_reducible rfl)); (try simp only [Act.put, List.setIfInBounds_toArray, List.set_cons_zero, List.set_cons_succ]))
        refine calm_end (fun W hW => ?_)
        have hq2 := hid (show Blk W w.heap.size (cuA c) ∧ Below w.heap.size w W from hW.out)
        clear hW hq hX2 z1 z2 z3
        go_wp2
        go_roundw
        case rel => exact ⟨3, by omega, by go_num, by rw [hT2.out, ← hN.out], hq2.out.1, hq2.out.2⟩
        case measure => simp [intOf]
      · have hN : Hid (T ++ (⟨#[101]⟩ ++ hxB c.r3 ++ ⟨#[32]⟩) = T2) := hnx.out (by decide)
        have hX2 : Hid (∀ W, Calls Tryd.prog 77 #[.int .i64 c.r3] W fun e w' => e = .returned (.string (hxB c.r3)) ∧ Below W.heap.size W w') := hX
        have hXs2 : (hxB c.r3).size = 2 := hXs
        clear hnx h6 hX hXs
        generalize hxB c.r3 = HX at *
        have z1 : ¬ 9223372036854775807 < 1 + HX.size := by omega
        have z2 : ¬ 9223372036854775807 < 1 + HX.size + 1 := by omega
        have z3 : ¬ 9223372036854775807 < T.size + (1 + HX.size + 1) := by omega
        have z4 : ¬ 9223372036854775807 < T.size + 4 := by omega
        go_wp2_with fail
        go_upto_region 6 with fail
        refine calm_regionK 13 (fun W => Hid (Blk W w.heap.size (cuA c) ∧ Below w.heap.size w W)) (fun _ => True) (by kernel_rfl) (by kernel_rfl) (by kernel_rfl) (by kernel_rfl) (by kernel_rfl) (by kernel_rfl) (⟨hq.out.1.below (Below.refl _ _).drew hq.out.1.lt, hq.out.2.drew⟩) ?_
        iterate 2 (refine calm_take (v := ?_) (by decide) (by kernel_rfl) (by kernel_rfl) ?_ ?_; rotate_left; (focus (intro W hW; have y0 := hW.out.1.cell; go_simp; first | done | with_reducible rfl)); (try simp only [Act.put, List.setIfInBounds_toArray, List.set_cons_zero, List.set_cons_succ]))
        refine calm_take (v := .int .u8 101) (by decide) (by kernel_rfl) (by kernel_rfl) ?_ ?_; (focus (intro W hW; kernel_rfl)); (try simp only [Act.put, List.setIfInBounds_toArray, List.set_cons_zero, List.set_cons_succ])
        refine calm_take (v := .string ⟨#[101]⟩) (by decide) (by kernel_rfl) (by kernel_rfl) ?_ ?_; (focus (intro W hW; kernel_rfl)); (try simp only [Act.put, List.setIfInBounds_toArray, List.set_cons_zero, List.set_cons_succ])
        iterate 4 (refine calm_take (v := ?_) (by decide) (by kernel_rfl) (by kernel_rfl) ?_ ?_; rotate_left; (focus (intro W hW; have y0 := hW.out.1.cell; go_simp; first | done | with_reducible rfl)); (try simp only [Act.put, List.setIfInBounds_toArray, List.set_cons_zero, List.set_cons_succ]))
        refine calm_call (f := 77) (args := #[.int .i64 c.r3]) (.string HX) (by decide) (by kernel_rfl) (by kernel_rfl) ?_ ?_ ?_; (focus (intro W; go_simp; first | done | with_reducible rfl)); (focus (intro W hW; exact (hX2.out W).mono (fun r W' hr => ⟨hr.1, hW.out.1.below hr.2 hW.out.1.lt, new_trans hW.out.2 hr.2⟩))); (try simp only [Act.put, List.setIfInBounds_toArray, List.set_cons_zero, List.set_cons_succ])
        iterate 4 (refine calm_take (v := ?_) (by decide) (by kernel_rfl) (by kernel_rfl) ?_ ?_; rotate_left; (focus (intro W hW; have y0 := hW.out.1.cell; go_simp; first | done | with_reducible rfl)); (try simp only [Act.put, List.setIfInBounds_toArray, List.set_cons_zero, List.set_cons_succ]))
        refine calm_end (fun W hW => ?_)
        have hq2 := hid (show Blk W w.heap.size (cuA c) ∧ Below w.heap.size w W from hW.out)
        clear hW hq hX2 z1 z2 z3
        go_wp2
        go_roundw
        case rel => exact ⟨4, by omega, by go_num, by rw [hT2.out, ← hN.out], hq2.out.1, hq2.out.2⟩
        case measure => simp [intOf]
      · have hN : Hid (T ++ (⟨#[104]⟩ ++ hxB c.r4 ++ ⟨#[32]⟩) = T2) := hnx.out (by decide)
        have hX2 : Hid (∀ W, Calls Tryd.prog 77 #[.int .i64 c.r4] W fun e w' => e = .returned (.string (hxB c.r4)) ∧ Below W.heap.size W w') := hX
        have hXs2 : (hxB c.r4).size = 2 := hXs
        clear hnx h6 hX hXs
        generalize hxB c.r4 = HX at *
        have z1 : ¬ 9223372036854775807 < 1 + HX.size := by omega
        have z2 : ¬ 9223372036854775807 < 1 + HX.size + 1 := by omega
        have z3 : ¬ 9223372036854775807 < T.size + (1 + HX.size + 1) := by omega
        have z4 : ¬ 9223372036854775807 < T.size + 4 := by omega
        go_wp2_with fail
        go_upto_region 6 with fail
        refine calm_regionK 13 (fun W => Hid (Blk W w.heap.size (cuA c) ∧ Below w.heap.size w W)) (fun _ => True) (by kernel_rfl) (by kernel_rfl) (by kernel_rfl) (by kernel_rfl) (by kernel_rfl) (by kernel_rfl) (⟨hq.out.1.below (Below.refl _ _).drew hq.out.1.lt, hq.out.2.drew⟩) ?_
        iterate 2 (refine calm_take (v := ?_) (by decide) (by kernel_rfl) (by kernel_rfl) ?_ ?_; rotate_left; (focus (intro W hW; have y0 := hW.out.1.cell; go_simp; first | done | with_reducible rfl)); (try simp only [Act.put, List.setIfInBounds_toArray, List.set_cons_zero, List.set_cons_succ]))
        refine calm_take (v := .int .u8 104) (by decide) (by kernel_rfl) (by kernel_rfl) ?_ ?_; (focus (intro W hW; kernel_rfl)); (try simp only [Act.put, List.setIfInBounds_toArray, List.set_cons_zero, List.set_cons_succ])
        refine calm_take (v := .string ⟨#[104]⟩) (by decide) (by kernel_rfl) (by kernel_rfl) ?_ ?_; (focus (intro W hW; kernel_rfl)); (try simp only [Act.put, List.setIfInBounds_toArray, List.set_cons_zero, List.set_cons_succ])
        iterate 4 (refine calm_take (v := ?_) (by decide) (by kernel_rfl) (by kernel_rfl) ?_ ?_; rotate_left; (focus (intro W hW; have y0 := hW.out.1.cell; go_simp; first | done | with_reducible rfl)); (try simp only [Act.put, List.setIfInBounds_toArray, List.set_cons_zero, List.set_cons_succ]))
        refine calm_call (f := 77) (args := #[.int .i64 c.r4]) (.string HX) (by decide) (by kernel_rfl) (by kernel_rfl) ?_ ?_ ?_; (focus (intro W; go_simp; first | done | with_reducible rfl)); (focus (intro W hW; exact (hX2.out W).mono (fun r W' hr => ⟨hr.1, hW.out.1.below hr.2 hW.out.1.lt, new_trans hW.out.2 hr.2⟩))); (try simp only [Act.put, List.setIfInBounds_toArray, List.set_cons_zero, List.set_cons_succ])
        iterate 4 (refine calm_take (v := ?_) (by decide) (by kernel_rfl) (by kernel_rfl) ?_ ?_; rotate_left; (focus (intro W hW; have y0 := hW.out.1.cell; go_simp; first | done | with_reducible rfl)); (try simp only [Act.put, List.setIfInBounds_toArray, List.set_cons_zero, List.set_cons_succ]))
        refine calm_end (fun W hW => ?_)
        have hq2 := hid (show Blk W w.heap.size (cuA c) ∧ Below w.heap.size w W from hW.out)
        clear hW hq hX2 z1 z2 z3
        go_wp2
        go_roundw
        case rel => exact ⟨5, by omega, by go_num, by rw [hT2.out, ← hN.out], hq2.out.1, hq2.out.2⟩
        case measure => simp [intOf]
      · have hN : Hid (T ++ (⟨#[108]⟩ ++ hxB c.r5 ++ ⟨#[32]⟩) = T2) := hnx.out (by decide)
        have hX2 : Hid (∀ W, Calls Tryd.prog 77 #[.int .i64 c.r5] W fun e w' => e = .returned (.string (hxB c.r5)) ∧ Below W.heap.size W w') := hX
        have hXs2 : (hxB c.r5).size = 2 := hXs
        clear hnx h6 hX hXs
        generalize hxB c.r5 = HX at *
        have z1 : ¬ 9223372036854775807 < 1 + HX.size := by omega
        have z2 : ¬ 9223372036854775807 < 1 + HX.size + 1 := by omega
        have z3 : ¬ 9223372036854775807 < T.size + (1 + HX.size + 1) := by omega
        have z4 : ¬ 9223372036854775807 < T.size + 4 := by omega
        go_wp2_with fail
        go_upto_region 6 with fail
        refine calm_regionK 13 (fun W => Hid (Blk W w.heap.size (cuA c) ∧ Below w.heap.size w W)) (fun _ => True) (by kernel_rfl) (by kernel_rfl) (by kernel_rfl) (by kernel_rfl) (by kernel_rfl) (by kernel_rfl) (⟨hq.out.1.below (Below.refl _ _).drew hq.out.1.lt, hq.out.2.drew⟩) ?_
        iterate 2 (refine calm_take (v := ?_) (by decide) (by kernel_rfl) (by kernel_rfl) ?_ ?_; rotate_left; (focus (intro W hW; have y0 := hW.out.1.cell; go_simp; first | done | with_reducible rfl)); (try simp only [Act.put, List.setIfInBounds_toArray, List.set_cons_zero, List.set_cons_succ]))
        refine calm_take (v := .int .u8 108) (by decide) (by kernel_rfl) (by kernel_rfl) ?_ ?_; (focus (intro W hW; kernel_rfl)); (try simp only [Act.put, List.setIfInBounds_toArray, List.set_cons_zero, List.set_cons_succ])
        refine calm_take (v := .string ⟨#[108]⟩) (by decide) (by kernel_rfl) (by kernel_rfl) ?_ ?_; (focus (intro W hW; kernel_rfl)); (try simp only [Act.put, List.setIfInBounds_toArray, List.set_cons_zero, List.set_cons_succ])
        iterate 4 (refine calm_take (v := ?_) (by decide) (by kernel_rfl) (by kernel_rfl) ?_ ?_; rotate_left; (focus (intro W hW; have y0 := hW.out.1.cell; go_simp; first | done | with_reducible rfl)); (try simp only [Act.put, List.setIfInBounds_toArray, List.set_cons_zero, List.set_cons_succ]))
        refine calm_call (f := 77) (args := #[.int .i64 c.r5]) (.string HX) (by decide) (by kernel_rfl) (by kernel_rfl) ?_ ?_ ?_; (focus (intro W; go_simp; first | done | with_reducible rfl)); (focus (intro W hW; exact (hX2.out W).mono (fun r W' hr => ⟨hr.1, hW.out.1.below hr.2 hW.out.1.lt, new_trans hW.out.2 hr.2⟩))); (try simp only [Act.put, List.setIfInBounds_toArray, List.set_cons_zero, List.set_cons_succ])
        iterate 4 (refine calm_take (v := ?_) (by decide) (by kernel_rfl) (by kernel_rfl) ?_ ?_; rotate_left; (focus (intro W hW; have y0 := hW.out.1.cell; go_simp; first | done | with_reducible rfl)); (try simp only [Act.put, List.setIfInBounds_toArray, List.set_cons_zero, List.set_cons_succ]))
        refine calm_end (fun W hW => ?_)
        have hq2 := hid (show Blk W w.heap.size (cuA c) ∧ Below w.heap.size w W from hW.out)
        clear hW hq hX2 z1 z2 z3
        go_wp2
        go_roundw
        case rel => exact ⟨6, by omega, by go_num, by rw [hT2.out, ← hN.out], hq2.out.1, hq2.out.2⟩
        case measure => simp [intOf]
      · have hN : Hid (T ++ (⟨#[97]⟩ ++ hxB c.r7 ++ ⟨#[32]⟩) = T2) := hnx.out (by decide)
        have hX2 : Hid (∀ W, Calls Tryd.prog 77 #[.int .i64 c.r7] W fun e w' => e = .returned (.string (hxB c.r7)) ∧ Below W.heap.size W w') := hX
        have hXs2 : (hxB c.r7).size = 2 := hXs
        clear hnx h6 hX hXs
        generalize hxB c.r7 = HX at *
        have z1 : ¬ 9223372036854775807 < 1 + HX.size := by omega
        have z2 : ¬ 9223372036854775807 < 1 + HX.size + 1 := by omega
        have z3 : ¬ 9223372036854775807 < T.size + (1 + HX.size + 1) := by omega
        have z4 : ¬ 9223372036854775807 < T.size + 4 := by omega
        go_wp2_with fail
        go_upto_region 6 with fail
        refine calm_regionK 13 (fun W => Hid (Blk W w.heap.size (cuA c) ∧ Below w.heap.size w W)) (fun _ => True) (by kernel_rfl) (by kernel_rfl) (by kernel_rfl) (by kernel_rfl) (by kernel_rfl) (by kernel_rfl) (⟨hq.out.1.below (Below.refl _ _).drew hq.out.1.lt, hq.out.2.drew⟩) ?_
        iterate 2 (refine calm_take (v := ?_) (by decide) (by kernel_rfl) (by kernel_rfl) ?_ ?_; rotate_left; (focus (intro W hW; have y0 := hW.out.1.cell; go_simp; first | done | with_reducible rfl)); (try simp only [Act.put, List.setIfInBounds_toArray, List.set_cons_zero, List.set_cons_succ]))
        refine calm_take (v := .int .u8 97) (by decide) (by kernel_rfl) (by kernel_rfl) ?_ ?_; (focus (intro W hW; kernel_rfl)); (try simp only [Act.put, List.setIfInBounds_toArray, List.set_cons_zero, List.set_cons_succ])
        refine calm_take (v := .string ⟨#[97]⟩) (by decide) (by kernel_rfl) (by kernel_rfl) ?_ ?_; (focus (intro W hW; kernel_rfl)); (try simp only [Act.put, List.setIfInBounds_toArray, List.set_cons_zero, List.set_cons_succ])
        iterate 4 (refine calm_take (v := ?_) (by decide) (by kernel_rfl) (by kernel_rfl) ?_ ?_; rotate_left; (focus (intro W hW; have y0 := hW.out.1.cell; go_simp; first | done | with_reducible rfl)); (try simp only [Act.put, List.setIfInBounds_toArray, List.set_cons_zero, List.set_cons_succ]))
        refine calm_call (f := 77) (args := #[.int .i64 c.r7]) (.string HX) (by decide) (by kernel_rfl) (by kernel_rfl) ?_ ?_ ?_; (focus (intro W; go_simp; first | done | with_reducible rfl)); (focus (intro W hW; exact (hX2.out W).mono (fun r W' hr => ⟨hr.1, hW.out.1.below hr.2 hW.out.1.lt, new_trans hW.out.2 hr.2⟩))); (try simp only [Act.put, List.setIfInBounds_toArray, List.set_cons_zero, List.set_cons_succ])
        iterate 4 (refine calm_take (v := ?_) (by decide) (by kernel_rfl) (by kernel_rfl) ?_ ?_; rotate_left; (focus (intro W hW; have y0 := hW.out.1.cell; go_simp; first | done | with_reducible rfl)); (try simp only [Act.put, List.setIfInBounds_toArray, List.set_cons_zero, List.set_cons_succ]))
        refine calm_end (fun W hW => ?_)
        have hq2 := hid (show Blk W w.heap.size (cuA c) ∧ Below w.heap.size w W from hW.out)
        clear hW hq hX2 z1 z2 z3
        go_wp2
        go_roundw
        case rel => exact ⟨8, by omega, by go_num, by rw [hT2.out, ← hN.out], hq2.out.1, hq2.out.2⟩
        case measure => simp [intOf]
    · obtain rfl : j = 8 := by omega
      have hz := hsz.out 8 (by omega)
      clear hsz hR
      generalize spT c 8 = T at *
      generalize hxB c.f = HF at *
      generalize hxB c.sp = HS at *
      generalize hxB c.pc = HP at *
      have hAA := hA.out
      rw [← hE.out] at hAA
      simp only [ByteArray.size_append] at hAA
      have e1 : (⟨#[102]⟩ : ByteArray).size = 1 := rfl
      have e2 : (⟨#[32, 115, 112]⟩ : ByteArray).size = 3 := rfl
      have e3 : (⟨#[32, 112, 99]⟩ : ByteArray).size = 3 := rfl
      have z1 : ¬ 9223372036854775807 < 1 + HF.size := by omega
      have z2 : ¬ 9223372036854775807 < 1 + HF.size + 3 := by omega
      have z3 : ¬ 9223372036854775807 < 1 + HF.size + 3 + HS.size := by omega
      have z4 : ¬ 9223372036854775807 < 1 + HF.size + 3 + HS.size + 3 := by omega
      have z5 : ¬ 9223372036854775807 < 1 + HF.size + 3 + HS.size + 3 + HP.size := by omega
      have z6 : ¬ 9223372036854775807 < T.size + (1 + HF.size + 3 + HS.size + 3 + HP.size) := by omega
      have z7 : ¬ 9223372036854775807 < T.size + 13 := by omega
      go_upto_region 7 with fail
      refine calm_regionK 17 (fun W => Hid (Blk W w.heap.size (cuA c) ∧ Below w.heap.size w W)) (fun _ => True) (by kernel_rfl) (by kernel_rfl) (by kernel_rfl) (by kernel_rfl) (by kernel_rfl) (by kernel_rfl) (⟨hq.out.1.below (Below.refl _ _).drew hq.out.1.lt, hq.out.2.drew⟩) ?_
      iterate 3 (refine calm_take (v := ?_) (by decide) (by kernel_rfl) (by kernel_rfl) ?_ ?_; rotate_left; (focus (intro W hW; have y0 := hW.out.1.cell; go_simp; first | done | with_reducible rfl)); (try simp only [Act.put, List.setIfInBounds_toArray, List.set_cons_zero, List.set_cons_succ]))
      refine calm_call (f := 77) (args := #[.int .i64 c.f]) (.string HF) (by decide) (by kernel_rfl) (by kernel_rfl) ?_ ?_ ?_; (focus (intro W; go_simp; first | done | with_reducible rfl)); (focus (intro W hW; exact (hF.out W).mono (fun r W' hr => ⟨hr.1, hW.out.1.below hr.2 hW.out.1.lt, new_trans hW.out.2 hr.2⟩))); (try simp only [Act.put, List.setIfInBounds_toArray, List.set_cons_zero, List.set_cons_succ])
      iterate 4 (refine calm_take (v := ?_) (by decide) (by kernel_rfl) (by kernel_rfl) ?_ ?_; rotate_left; (focus (intro W hW; have y0 := hW.out.1.cell; go_simp; first | done | with_reducible rfl)); (try simp only [Act.put, List.setIfInBounds_toArray, List.set_cons_zero, List.set_cons_succ]))
      refine calm_call (f := 77) (args := #[.int .i64 c.sp]) (.string HS) (by decide) (by kernel_rfl) (by kernel_rfl) ?_ ?_ ?_; (focus (intro W; go_simp; first | done | with_reducible rfl)); (focus (intro W hW; exact (hS.out W).mono (fun r W' hr => ⟨hr.1, hW.out.1.below hr.2 hW.out.1.lt, new_trans hW.out.2 hr.2⟩))); (try simp only [Act.put, List.setIfInBounds_toArray, List.set_cons_zero, List.set_cons_succ])
      iterate 4 (refine calm_take (v := ?_) (by decide) (by kernel_rfl) (by kernel_rfl) ?_ ?_; rotate_left; (focus (intro W hW; have y0 := hW.out.1.cell; go_simp; first | done | with_reducible rfl)); (try simp only [Act.put, List.setIfInBounds_toArray, List.set_cons_zero, List.set_cons_succ]))
      refine calm_call (f := 77) (args := #[.int .i64 c.pc]) (.string HP) (by decide) (by kernel_rfl) (by kernel_rfl) ?_ ?_ ?_; (focus (intro W; go_simp; first | done | with_reducible rfl)); (focus (intro W hW; exact (hP.out W).mono (fun r W' hr => ⟨hr.1, hW.out.1.below hr.2 hW.out.1.lt, new_trans hW.out.2 hr.2⟩))); (try simp only [Act.put, List.setIfInBounds_toArray, List.set_cons_zero, List.set_cons_succ])
      iterate 3 (refine calm_take (v := ?_) (by decide) (by kernel_rfl) (by kernel_rfl) ?_ ?_; rotate_left; (focus (intro W hW; have y0 := hW.out.1.cell; go_simp; first | done | with_reducible rfl)); (try simp only [Act.put, List.setIfInBounds_toArray, List.set_cons_zero, List.set_cons_succ]))
      refine calm_end (fun W hW => ?_)
      have hq2 := hid (show Blk W w.heap.size (cuA c) ∧ Below w.heap.size w W from hW.out)
      clear hW hq z1 z2 z3 z4 z5 z6 hAA hF hS hP
      rw [hE.out]
      have x2 := hq2.out.1.cell
      have hAs := hA.out
      have hC : Hid (∀ b1 b2 : Bool, c.iff = b1 → c.halt = b2 → (if b2 = true then (if b1 = true then txA c ++ ⟨#[32, 101, 105]⟩ else txA c) ++ ⟨#[32, 104, 97, 108, 116]⟩ else (if b1 = true then txA c ++ ⟨#[32, 101, 105]⟩ else txA c)) = txC c) := fun b1 b2 h1 h2 => by unfold txC txB1; rw [h1, h2]
      have y1 : ¬ 9223372036854775807 < (txA c).size + 3 := by omega
      have y2 : ¬ 9223372036854775807 < (txA c).size + 5 := by omega
      have y3 : ¬ 9223372036854775807 < (txA c).size + 3 + 5 := by omega
      generalize txA c = TA at *
      cases hi : c.iff <;> cases hh : c.halt
      all_goals
        have hC2 := hid (hC.out _ _ hi hh)
        have y11 : W.cell? ⟨w.heap.size, 11, none⟩ = some (.bool c.iff) := x2 11
        have y13 : W.cell? ⟨w.heap.size, 13, none⟩ = some (.bool c.halt) := x2 13
        rw [hi] at y11
        rw [hh] at y13
        clear hC hi hh x2
        go_wp2
        go_ret
        exact ⟨ret_str hC2.out, hq2.out.2⟩
set_option maxRecDepth 100000 in
theorem cput_spec (c : Cu) (w : World) : Calls Tryd.prog 23 #[cuV c] w fun e w' => e = .returned (cpuT2 c) ∧ Below w.heap.size w w' := by
  have hb0 := hid ((Below.refl w.heap.size w).alloc (Nat.le_refl _) (.cells (cuA c) 52))
  have hq0 := hid (Blk.new w (cuA c) 52)
  have x0 := hq0.out.cell
  cases hok : okC c
  · have e : cpuT2 c = .tuple #[.string ⟨#[]⟩, .int .i64 1] := by unfold cpuT2; rw [hok]; rfl
    rw [e]
    clear e
    go_enter Tryd.func23, Tryd.ntmps23
    go_wp2_with fail
    refine (cpuok_spec _ _).mono ?_
    rintro e w1 ⟨rfl, hb⟩
    rw [hok]
    have hb1 := hid (new_trans hb0.out hb)
    clear hb hb0 hq0 x0
    go_wp2
    go_ret2
    exact ⟨rfl, hb1.out⟩
  have e : cpuT2 c = .tuple #[.string (txC c), .int .i64 0] := by unfold cpuT2; rw [hok]; rfl
  rw [e]
  clear e
  go_enter Tryd.func23, Tryd.ntmps23
  go_wp2_with fail
  refine (cpuok_spec _ _).mono ?_
  rintro e w1 ⟨rfl, hb⟩
  rw [hok]
  have hb1 := hid (new_trans hb0.out hb)
  have hq1 := hid (hq0.out.below hb hq0.out.lt)
  clear hb hb0 hq0 x0
  have x1 := hq1.out.cell
  go_wp2_with fail
  refine (lcpu_spec c _ hok).mono ?_
  rintro e w2 ⟨rfl, hb⟩
  have hb2 := hid (new_trans hb1.out hb)
  clear hb hb1 hq1 x1
  go_wp2
  go_ret2
  exact ⟨rfl, hb2.out⟩
end Go.Proofs.YtneagomkohoceaaDoor
