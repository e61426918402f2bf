/- The switches and the border of a snapshot as numbers: the program. -/
import Derived.Test.YtghcagibdcblnaaT34
import Derived.BigQuiet
import Derived.Test.YtghcagibdcblnaaEht
namespace Go.Proofs.Ytghcagibdcblnaa
open Go.ChangeShapes Go.WideShapes Go.ChangeAt Go.RowKit
set_option linter.unusedVariables false
set_option linter.unusedSimpArgs false

def whS (p : Bool) (x : Int) : Int := cond p x 0
theorem below_drewN {b : Nat} {w V : World} (h : Below b w V) (n : Nat) : Below b w (V.drewN n) := ⟨h.os, h.tape, h.output, h.size, h.block⟩
theorem whenS_impl (p : Bool) (x : Int) (w : World) : Calls Try.prog 64 #[.bool p, .int .i64 x] w fun e w' => e = .returned (.int .i64 (whS p x)) ∧ w' = w := by
  cases p
  all_goals
    go_enter Try.func64, Try.ntmps64
    go_wp2
    go_ret
    exact ⟨rfl, rfl⟩
theorem sw_or (a b c d e : Bool) : bits .or .i64 (bits .or .i64 (bits .or .i64 (bits .or .i64 (whS a 1) (whS b 2)) (whS c 4)) (whS d 8)) (whS e 16) = b1 a + 2 * b1 b + 4 * b1 c + 8 * b1 d + 16 * b1 e := by
  cases a <;> cases b <;> cases c <;> cases d <;> cases e <;> decide
theorem bo_or (n : Int) (a b : Bool) (h0 : 0 ≤ n) (h1 : n ≤ 7) : bits .or .i64 (bits .or .i64 n (whS a 8)) (whS b 16) = n + 8 * b1 a + 16 * b1 b := by
  rcases (by omega : n = 0 ∨ n = 1 ∨ n = 2 ∨ n = 3 ∨ n = 4 ∨ n = 5 ∨ n = 6 ∨ n = 7) with rfl | rfl | rfl | rfl | rfl | rfl | rfl | rfl
  all_goals (cases a <;> cases b <;> decide)
set_option maxRecDepth 100000 in
set_option maxHeartbeats 1000000 in
theorem switches_impl (s : Sn) (vr vm : Value) (w : World) :
    Calls Try.prog 58 #[.agg (snA s vr vm)] w fun e w' => e = .returned (.int .i64 (bitsS s.c s.m)) ∧ Below w.heap.size w w' := by
  have hB := hid ((Below.refl w.heap.size w).alloc (Nat.le_refl _) (.cells (snA s vr vm) 39))
  have q := Blk.new w (snA s vr vm) 39
  have hE : Hid (bits .or .i64 (bits .or .i64 (bits .or .i64 (bits .or .i64 (whS s.c.iff 1) (whS s.c.ei 2)) (whS s.c.halt 4)) (whS s.m.locked 8)) (whS (s.m.screen == 3) 16) = bitsS s.c s.m) := sw_or s.c.iff s.c.ei s.c.halt s.m.locked (decide (s.m.screen = 3))
  have hW := hid (fun p x W => whenS_impl p x W)
  go_enter Try.func58, Try.ntmps58
  go_upto_region 1 with fail
  obtain ⟨V, hV⟩ : ∃ V, w.alloc (Obj.cells (snA s vr vm) 39) = V := ⟨_, rfl⟩
  rw [hV] at hB q ⊢
  clear hV
  have c11 := q.cell 11
  have c12 := q.cell 12
  have c13 := q.cell 13
  have c18 := q.cell 18
  have c17 := q.cell 17
  simp only [List.getElem?_toArray, List.getElem?_cons_succ, List.getElem?_cons_zero] at c11 c12 c13 c17 c18
  clear q
  go_quiet ((go_at_call 64; exact Calls.quiet_of_same (hW.out _ _ _)))
  go_wp2
  rw [hE.out]
  go_ret
  exact ⟨rfl, below_drewN hB.out nq⟩
set_option maxRecDepth 100000 in
set_option maxHeartbeats 1000000 in
theorem border_impl (s : Sn) (vr vm : Value) (w : World) (h0 : 0 ≤ s.p.border) (h1 : s.p.border ≤ 7) :
    Calls Try.prog 59 #[.agg (snA s vr vm)] w fun e w' => e = .returned (.int .i64 (ulaS s.p)) ∧ Below w.heap.size w w' := by
  have hB := hid ((Below.refl w.heap.size w).alloc (Nat.le_refl _) (.cells (snA s vr vm) 39))
  have q := Blk.new w (snA s vr vm) 39
  have hE : Hid (bits .or .i64 (bits .or .i64 s.p.border (whS s.p.mic 8)) (whS s.p.beep 16) = ulaS s.p) := bo_or _ _ _ h0 h1
  have hW := hid (fun p x W => whenS_impl p x W)
  clear h0 h1
  go_enter Try.func59, Try.ntmps59
  go_upto_region 1 with fail
  obtain ⟨V, hV⟩ : ∃ V, w.alloc (Obj.cells (snA s vr vm) 39) = V := ⟨_, rfl⟩
  rw [hV] at hB q ⊢
  clear hV
  have c28 := q.cell 28
  have c29 := q.cell 29
  have c30 := q.cell 30
  simp only [List.getElem?_toArray, List.getElem?_cons_succ, List.getElem?_cons_zero] at c28 c29 c30
  clear q
  go_quiet ((go_at_call 64; exact Calls.quiet_of_same (hW.out _ _ _)))
  go_wp2
  rw [hE.out]
  go_ret
  exact ⟨rfl, below_drewN hB.out nq⟩
end Go.Proofs.Ytghcagibdcblnaa

/- Plain facts of a right snapshot and of its text. -/
namespace Go.Proofs.Ytghcagibdcblnaa
open Go.ChangeShapes Go.WideShapes Go.ChangeAt Go.RowKit
set_option linter.unusedVariables false
set_option linter.unusedSimpArgs false

theorem sn_parts {s : Sn} (h : okSn s = true) : okC s.c = true ∧ okM s.m = true ∧ okPo s.p = true := by
  unfold okSn at h
  simp only [Bool.and_eq_true] at h
  exact ⟨h.1.1, h.1.2, h.2⟩
theorem in_of {x a b : Int} (h : inB x a b = true) : a ≤ x ∧ x ≤ b := by
  unfold inB at h
  simp only [Bool.and_eq_true, decide_eq_true_eq] at h
  exact h
theorem right_of {s : Sn} (h : okSn s = true) : Right s.c s.m s.p := by
  obtain ⟨h1, h2, h3⟩ := sn_parts h
  obtain ⟨m1, m2, m3, m4, m5⟩ := ok_parts h2
  have hb := po_border h3
  refine ⟨h1, m2, fun b hb => ?_, m3, m4, hb⟩
  have h6 : bytesB b 64 = true := by
    unfold okM at h2
    simp only [Bool.and_eq_true, List.all_eq_true] at h2
    exact h2.2 b hb
  exact (bytes13 h6).1
theorem cu_bytes {c : Cu} (h : okC c = true) : ∀ x ∈ [c.r0, c.r1, c.r2, c.r3, c.r4, c.r5, c.r6, c.r7, c.f, c.sp, c.pc], 0 ≤ x ∧ x ≤ 255 := by
  unfold okC regsB at h
  simp only [Bool.and_eq_true, List.all_eq_true, List.mem_range, decide_eq_true_eq] at h
  obtain ⟨⟨⟨⟨⟨hr, _⟩, hf⟩, hsp⟩, hpc⟩, _⟩ := h
  intro x hx
  simp only [List.mem_cons, List.not_mem_nil, or_false] at hx
  rcases hx with rfl | rfl | rfl | rfl | rfl | rfl | rfl | rfl | rfl | rfl | rfl
  · exact in_of (hr 0 (by omega))
  · exact in_of (hr 1 (by omega))
  · exact in_of (hr 2 (by omega))
  · exact in_of (hr 3 (by omega))
  · exact in_of (hr 4 (by omega))
  · exact in_of (hr 5 (by omega))
  · exact in_of (hr 6 (by omega))
  · exact in_of (hr 7 (by omega))
  · exact in_of hf
  · exact in_of hsp
  · exact in_of hpc
theorem bnks_bytes : ∀ (R : List (List Int)), (∀ b ∈ R, bytesB b 64 = true) → ∀ x ∈ bnksL R, 0 ≤ x ∧ x ≤ 255
  | [], _, x, h => by cases h
  | b :: R, hb, x, h => by
    have h1 : bnksL (b :: R) = bnkL b ++ bnksL R := rfl
    rw [h1] at h
    rcases List.mem_append.1 h with h | h
    · obtain ⟨e1, e2⟩ := bytes13 (hb b (List.mem_cons_self ..))
      have hbb : ∀ y ∈ b, 0 ≤ y ∧ y ≤ 255 := fun y hy => by
        obtain ⟨k, hk, rfl⟩ := List.mem_iff_getElem.1 hy
        have := e2 k (by omega)
        rw [List.getD_eq_getElem?_getD, List.getElem?_eq_getElem hk] at this
        exact this
      have hl := cmpE_len b
      rcases List.mem_append.1 h with h | h
      · simp only [List.mem_cons, List.not_mem_nil, or_false] at h
        rcases h with rfl | rfl
        · omega
        · omega
      · exact cmpL_all b.length b hbb x h
    · exact bnks_bytes R (fun c hc => hb c (List.mem_cons_of_mem _ hc)) x h
theorem snapL_bytes {s : Sn} (h : okSn s = true) : ∀ x ∈ snapL s.c s.m s.p, 0 ≤ x ∧ x ≤ 255 := by
  obtain ⟨h1, h2, h3⟩ := sn_parts h
  obtain ⟨m1, m2, m3, m4, m5⟩ := ok_parts h2
  have hc := cu_bytes h1
  have hb := po_border h3
  have hbs := bitsS_bd s.c s.m
  have hul := ulaS_bd s.p hb.1 hb.2
  have hp := m3
  intro x hx
  rcases List.mem_append.1 hx with hx | hx
  · have hx' : x ∈ [3, s.c.r0, s.c.r1, s.c.r2, s.c.r3, s.c.r4, s.c.r5, s.c.r6, s.c.r7, s.c.f, s.c.sp, s.c.pc, bitsS s.c s.m, s.m.page, ulaS s.p] := hx
    simp only [List.mem_cons, List.not_mem_nil, or_false] at hx' hc
    rcases hx' with rfl | rfl | rfl | rfl | rfl | rfl | rfl | rfl | rfl | rfl | rfl | rfl | rfl | rfl | rfl
    · omega
    · exact hc _ (by simp)
    · exact hc _ (by simp)
    · exact hc _ (by simp)
    · exact hc _ (by simp)
    · exact hc _ (by simp)
    · exact hc _ (by simp)
    · exact hc _ (by simp)
    · exact hc _ (by simp)
    · exact hc _ (by simp)
    · exact hc _ (by simp)
    · exact hc _ (by simp)
    · exact hbs
    · omega
    · exact hul
  · refine bnks_bytes s.m.ram (fun b hb => ?_) x hx
    unfold okM at h2
    simp only [Bool.and_eq_true, List.all_eq_true] at h2
    exact h2.2 b hb
end Go.Proofs.Ytghcagibdcblnaa
