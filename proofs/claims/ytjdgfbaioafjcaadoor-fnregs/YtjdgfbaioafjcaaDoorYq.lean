/- Registers of the sound chip that are chosen, written and read: the program. -/
import Derived.Test.YtjdgfbaioafjcaaDoorYp
namespace Go.Proofs.YtjdgfbaioafjcaaDoor
open Go.ChangeShapes Go.WideShapes Go.ChangeAt Go.RowKit
set_option linter.unusedVariables false
set_option linter.unusedSimpArgs false

set_option maxRecDepth 100000 in
set_option maxHeartbeats 4000000 in
theorem sel_impl_bad1 (c : Sg) (v : Int) (w : World) (hP : PBit w) (hf : faultS c v 255 = 1) : Calls Tryd.prog 11 #[sgV c, .int .i64 v] w fun e w' => e = .returned (ansS (zeS, 1)) ∧ Below w.heap.size w w' := by
  have hs := hid (P2s.start w c 27 27)
  have hP1 := hid ((hP.alloc (.cells (sgA c) 27)).alloc (.cells (sgA zeS) 27))
  clear hP
  have hrg0 := hid (sg_range hs.out.q0)
  go_enter Tryd.func11, Tryd.ntmps11
  go_upto_region 1 with fail
  obtain ⟨V, hV⟩ : ∃ V, (w.alloc (.cells (sgA c) 27)).alloc (.cells (sgA zeS) 27) = V := ⟨_, rfl⟩
  rw [hV] at hs hrg0 hP1 ⊢
  clear hV
  go_wp2_with (refine wpList_load_mid rfl 27 _ rfl w.heap.size 0 rfl (sgA c).toList _ hrg0.out Tryd.underlying27 rfl (sg_size c) ?_)
  refine (pfault_S c v 255 _ hP1.out).mono ?_
  rintro e w1 ⟨rfl, hb⟩
  rw [hf]
  have hP2 := hid (hP1.out.below hb)
  have h1 := hid (hs.out.below hb)
  clear hb hs hrg0 hP1
  clear hP2 hf
  have hth := hid (sg_there h1.out.q1 zeS)
  obtain ⟨tt, ht⟩ := sg_laid h1.out.q1 zeS
  replace ht := hid ht
  have hB := hid h1.out.bel
  clear h1
  go_wp2_with (refine wpList_store_mid rfl 27 _ _ rfl (w.heap.size + 1) 0 (sgA zeS) rfl rfl hth.out (sg_size zeS) (sg_one zeS) ?_)
  exact bodyPost_ret (v := ansS (zeS, 1)) (results_cell_tmp Tryd.results11 _ _ (w.heap.size + 1) tt (sgA zeS) (0, 0) _ _ rfl rfl ht.out Tryd.underlying27 rfl (sg_size zeS)) rfl ⟨rfl, lay_below _ _ _ (by omega) hB.out⟩
set_option maxRecDepth 100000 in
set_option maxHeartbeats 4000000 in
theorem sel_impl_bad4 (c : Sg) (v : Int) (w : World) (hP : PBit w) (hf : faultS c v 255 = 4) : Calls Tryd.prog 11 #[sgV c, .int .i64 v] w fun e w' => e = .returned (ansS (zeS, 4)) ∧ Below w.heap.size w w' := by
  have hs := hid (P2s.start w c 27 27)
  have hP1 := hid ((hP.alloc (.cells (sgA c) 27)).alloc (.cells (sgA zeS) 27))
  clear hP
  have hrg0 := hid (sg_range hs.out.q0)
  go_enter Tryd.func11, Tryd.ntmps11
  go_upto_region 1 with fail
  obtain ⟨V, hV⟩ : ∃ V, (w.alloc (.cells (sgA c) 27)).alloc (.cells (sgA zeS) 27) = V := ⟨_, rfl⟩
  rw [hV] at hs hrg0 hP1 ⊢
  clear hV
  go_wp2_with (refine wpList_load_mid rfl 27 _ rfl w.heap.size 0 rfl (sgA c).toList _ hrg0.out Tryd.underlying27 rfl (sg_size c) ?_)
  refine (pfault_S c v 255 _ hP1.out).mono ?_
  rintro e w1 ⟨rfl, hb⟩
  rw [hf]
  have hP2 := hid (hP1.out.below hb)
  have h1 := hid (hs.out.below hb)
  clear hb hs hrg0 hP1
  clear hP2 hf
  have hth := hid (sg_there h1.out.q1 zeS)
  obtain ⟨tt, ht⟩ := sg_laid h1.out.q1 zeS
  replace ht := hid ht
  have hB := hid h1.out.bel
  clear h1
  go_wp2_with (refine wpList_store_mid rfl 27 _ _ rfl (w.heap.size + 1) 0 (sgA zeS) rfl rfl hth.out (sg_size zeS) (sg_one zeS) ?_)
  exact bodyPost_ret (v := ansS (zeS, 4)) (results_cell_tmp Tryd.results11 _ _ (w.heap.size + 1) tt (sgA zeS) (0, 0) _ _ rfl rfl ht.out Tryd.underlying27 rfl (sg_size zeS)) rfl ⟨rfl, lay_below _ _ _ (by omega) hB.out⟩
set_option maxRecDepth 100000 in
set_option maxHeartbeats 4000000 in
theorem sel_impl_ok (c : Sg) (n : Nat) (w : World) (hP : PBit w) (hf : faultS c (n : Int) 255 = 0) (hn : n < 256) : Calls Tryd.prog 11 #[sgV c, .int .i64 (n : Int)] w fun e w' => e = .returned (ansS ({ c with sel := ((Nat.land n 7 : Nat) : Int) }, 0)) ∧ Below w.heap.size w w' := by
  have rA : bits .and .i64 (n : Int) 7 = (Nat.land n 7 : Nat) := bAnd n 7 (by omega) (by omega)
  generalize Nat.land n 7 = L at *
  have hs := hid (P2s.start w c 27 27)
  have hP1 := hid ((hP.alloc (.cells (sgA c) 27)).alloc (.cells (sgA zeS) 27))
  clear hP
  have hrg0 := hid (sg_range hs.out.q0)
  go_enter Tryd.func11, Tryd.ntmps11
  go_upto_region 1 with fail
  obtain ⟨V, hV⟩ : ∃ V, (w.alloc (.cells (sgA c) 27)).alloc (.cells (sgA zeS) 27) = V := ⟨_, rfl⟩
  rw [hV] at hs hrg0 hP1 ⊢
  clear hV
  go_wp2_with (refine wpList_load_mid rfl 27 _ rfl w.heap.size 0 rfl (sgA c).toList _ hrg0.out Tryd.underlying27 rfl (sg_size c) ?_)
  refine (pfault_S c (n : Int) 255 _ hP1.out).mono ?_
  rintro e w1 ⟨rfl, hb⟩
  rw [hf]
  have hP2 := hid (hP1.out.below hb)
  have h1 := hid (hs.out.below hb)
  clear hb hs hrg0 hP1
  clear hP2
  have h2 := hid (h1.out.set 8 (.int .i64 (L : Int)))
  rw [sgA_sel] at h2
  have y0 := h1.out.q0.cell
  have g0 := h1.out.q0.frozen
  have l0 := h1.out.q0.lt
  clear h1 hf
  go_upto_region 5 with fail
  obtain ⟨W2, hW2⟩ : ∃ W, w1.setCell ⟨w.heap.size, 8, none⟩ (.int .i64 (L : Int)) = W := ⟨_, rfl⟩
  rw [hW2] at h2 ⊢
  clear hW2 y0 g0 l0
  obtain ⟨C, hC⟩ : ∃ C : Sg, { c with sel := (L : Int) } = C := ⟨_, rfl⟩
  rw [hC] at h2
  replace hC := hid hC
  have hrg := hid (sg_range h2.out.q0)
  have hth := hid (sg_there h2.out.q1 C)
  obtain ⟨tt, ht⟩ := sg_laid h2.out.q1 C
  replace ht := hid ht
  have hB := hid h2.out.bel
  clear h2
  go_wp2_with (first | (refine wpList_store_mid rfl 27 _ _ rfl (w.heap.size + 1) 0 (sgA C) rfl rfl hth.out (sg_size C) (sg_one C) ?_) | (refine wpList_load_mid rfl 27 _ rfl w.heap.size 0 rfl (sgA C).toList _ hrg.out Tryd.underlying27 rfl (sg_size C) ?_))
  exact bodyPost_ret (v := ansS (C, 0)) (results_cell_tmp Tryd.results11 _ _ (w.heap.size + 1) tt (sgA C) (0, 0) _ _ rfl rfl ht.out Tryd.underlying27 rfl (sg_size C)) rfl ⟨by rw [hC.out], lay_below _ _ _ (by omega) hB.out⟩
theorem sel_impl (c : Sg) (v : Int) (w : World) (hP : PBit w) : Calls Tryd.prog 11 #[sgV c, .int .i64 v] w fun e w' => e = .returned (ansS (sel2 c v)) ∧ Below w.heap.size w w' := by
  cases hc : okS c
  · have e : sel2 c v = (zeS, 1) := by unfold sel2; rw [hc]; rfl
    rw [e]
    exact sel_impl_bad1 c v w hP (by unfold faultS; rw [hc]; rfl)
  · cases hr : inB v 0 255
    · have e : sel2 c v = (zeS, 4) := by unfold sel2; rw [hc, hr]; rfl
      rw [e]
      exact sel_impl_bad4 c v w hP (by unfold faultS; rw [hc, hr]; rfl)
    · obtain ⟨n, rfl, hn⟩ := byteS hr
      have e : sel2 c (n : Int) = ({ c with sel := ((Nat.land n 7 : Nat) : Int) }, 0) := by unfold sel2; rw [hc, hr]; simp only [if_true, Int.toNat_natCast]
      rw [e]
      exact sel_impl_ok c n w hP (by unfold faultS; rw [hc, hr]; rfl) hn
set_option maxRecDepth 100000 in
set_option maxHeartbeats 4000000 in
theorem wreg_impl_bad1 (c : Sg) (v : Int) (w : World) (hP : PBit w) (hf : faultS c v 255 = 1) : Calls Tryd.prog 12 #[sgV c, .int .i64 v] w fun e w' => e = .returned (ansS (zeS, 1)) ∧ Below w.heap.size w w' := by
  have hs := hid (P2s.start w c 27 27)
  have hP1 := hid ((hP.alloc (.cells (sgA c) 27)).alloc (.cells (sgA zeS) 27))
  clear hP
  have hrg0 := hid (sg_range hs.out.q0)
  go_enter Tryd.func12, Tryd.ntmps12
  go_upto_region 1 with fail
  obtain ⟨V, hV⟩ : ∃ V, (w.alloc (.cells (sgA c) 27)).alloc (.cells (sgA zeS) 27) = V := ⟨_, rfl⟩
  rw [hV] at hs hrg0 hP1 ⊢
  clear hV
  go_wp2_with (refine wpList_load_mid rfl 27 _ rfl w.heap.size 0 rfl (sgA c).toList _ hrg0.out Tryd.underlying27 rfl (sg_size c) ?_)
  refine (pfault_S c v 255 _ hP1.out).mono ?_
  rintro e w1 ⟨rfl, hb⟩
  rw [hf]
  have hP2 := hid (hP1.out.below hb)
  have h1 := hid (hs.out.below hb)
  clear hb hs hrg0 hP1
  clear hP2 hf
  have hth := hid (sg_there h1.out.q1 zeS)
  obtain ⟨tt, ht⟩ := sg_laid h1.out.q1 zeS
  replace ht := hid ht
  have hB := hid h1.out.bel
  clear h1
  go_wp2_with (refine wpList_store_mid rfl 27 _ _ rfl (w.heap.size + 1) 0 (sgA zeS) rfl rfl hth.out (sg_size zeS) (sg_one zeS) ?_)
  exact bodyPost_ret (v := ansS (zeS, 1)) (results_cell_tmp Tryd.results12 _ _ (w.heap.size + 1) tt (sgA zeS) (0, 0) _ _ rfl rfl ht.out Tryd.underlying27 rfl (sg_size zeS)) rfl ⟨rfl, lay_below _ _ _ (by omega) hB.out⟩
set_option maxRecDepth 100000 in
set_option maxHeartbeats 4000000 in
theorem wreg_impl_bad4 (c : Sg) (v : Int) (w : World) (hP : PBit w) (hf : faultS c v 255 = 4) : Calls Tryd.prog 12 #[sgV c, .int .i64 v] w fun e w' => e = .returned (ansS (zeS, 4)) ∧ Below w.heap.size w w' := by
  have hs := hid (P2s.start w c 27 27)
  have hP1 := hid ((hP.alloc (.cells (sgA c) 27)).alloc (.cells (sgA zeS) 27))
  clear hP
  have hrg0 := hid (sg_range hs.out.q0)
  go_enter Tryd.func12, Tryd.ntmps12
  go_upto_region 1 with fail
  obtain ⟨V, hV⟩ : ∃ V, (w.alloc (.cells (sgA c) 27)).alloc (.cells (sgA zeS) 27) = V := ⟨_, rfl⟩
  rw [hV] at hs hrg0 hP1 ⊢
  clear hV
  go_wp2_with (refine wpList_load_mid rfl 27 _ rfl w.heap.size 0 rfl (sgA c).toList _ hrg0.out Tryd.underlying27 rfl (sg_size c) ?_)
  refine (pfault_S c v 255 _ hP1.out).mono ?_
  rintro e w1 ⟨rfl, hb⟩
  rw [hf]
  have hP2 := hid (hP1.out.below hb)
  have h1 := hid (hs.out.below hb)
  clear hb hs hrg0 hP1
  clear hP2 hf
  have hth := hid (sg_there h1.out.q1 zeS)
  obtain ⟨tt, ht⟩ := sg_laid h1.out.q1 zeS
  replace ht := hid ht
  have hB := hid h1.out.bel
  clear h1
  go_wp2_with (refine wpList_store_mid rfl 27 _ _ rfl (w.heap.size + 1) 0 (sgA zeS) rfl rfl hth.out (sg_size zeS) (sg_one zeS) ?_)
  exact bodyPost_ret (v := ansS (zeS, 4)) (results_cell_tmp Tryd.results12 _ _ (w.heap.size + 1) tt (sgA zeS) (0, 0) _ _ rfl rfl ht.out Tryd.underlying27 rfl (sg_size zeS)) rfl ⟨rfl, lay_below _ _ _ (by omega) hB.out⟩
set_option maxRecDepth 100000 in
set_option maxHeartbeats 4000000 in
theorem wreg_impl0 (c : Sg) (s n : Nat) (w : World) (hP : PBit w) (hf : faultS c (n : Int) 255 = 0) (hn : n < 256) (hsel : c.sel = s) (hs8 : s < 8) (h7 : s = 7) : Calls Tryd.prog 12 #[sgV c, .int .i64 (n : Int)] w fun e w' => e = .returned (ansS ({ c.put (Nat.land n (maskN s) : Nat) s with env := 0, ec := 0 }, 0)) ∧ Below w.heap.size w w' := by
  have h7b : Hid (((s : Int) == 7) = true) := by rw [h7]; rfl
  clear h7
  have rA : bits .and .i64 (n : Int) ((maskN s : Nat) : Int) = (Nat.land n (maskN s) : Nat) := bAnd n (maskN s) (by omega) (by have := maskN_lt s; omega)
  have hm := hid (fun w1 (h : PBit w1) => h s hs8)
  have hat := sgA_at c s hs8
  have hput := hid (fun x : Nat => sgA_put c s (x : Int) hs8)
  have hps := hid (fun x : Nat => put_sel c (x : Int) s)
  rw [hsel] at hps
  have h8 : (sgA c)[8]? = some (.int .i64 (s : Int)) := by rw [← hsel]; rfl
  replace hsel := hid hsel
  generalize c.reg s = y at *
  generalize maskN s = m at *
  generalize Nat.land n m = L at *
  have hs := hid (P2s.start w c 27 27)
  have hP1 := hid ((hP.alloc (.cells (sgA c) 27)).alloc (.cells (sgA zeS) 27))
  clear hP
  have hrg0 := hid (sg_range hs.out.q0)
  go_enter Tryd.func12, Tryd.ntmps12
  go_upto_region 1 with fail
  obtain ⟨V, hV⟩ : ∃ V, (w.alloc (.cells (sgA c) 27)).alloc (.cells (sgA zeS) 27) = V := ⟨_, rfl⟩
  rw [hV] at hs hrg0 hP1 ⊢
  clear hV
  go_wp2_with (refine wpList_load_mid rfl 27 _ rfl w.heap.size 0 rfl (sgA c).toList _ hrg0.out Tryd.underlying27 rfl (sg_size c) ?_)
  refine (pfault_S c (n : Int) 255 _ hP1.out).mono ?_
  rintro e w1 ⟨rfl, hb⟩
  rw [hf]
  have hP2 := hid (hP1.out.below hb)
  have h1 := hid (hs.out.below hb)
  clear hb hs hrg0 hP1
  clear hf
  have xm := hm.out _ hP2.out
  clear hm hP2
  have y8 := h1.out.q0.cell 8
  rw [h8] at y8
  have ys := h1.out.q0.cell s
  rw [hat] at ys
  have gs := h1.out.q0.frozen s
  have h3 := hid (h1.out.drew.set s (.int .i64 (L : Int)))
  rw [hput.out L] at h3
  clear h1 hput hat h8
  go_upto_region 4 with fail
  go_cut [] (fun wx => P2s w wx (sgA (c.put (L : Int) s)))
  case first =>
    go_region
    go_wp2_with fail
    go_meet
    exact h3.out
  case rest =>
  clear h3
  have h3 := hid hcut
  clear hcut xm y8 ys gs
  have hsl := hps.out L
  obtain ⟨d, hd⟩ : ∃ d, c.put (L : Int) s = d := ⟨_, rfl⟩
  rw [hd] at h3 hsl
  replace hd := hid hd
  have h8 : (sgA d)[8]? = some (.int .i64 (s : Int)) := by rw [← hsl]; rfl
  have x8 := h3.out.q0.cell 8
  rw [h8] at x8
  have h7c := h7b.out
  have z15 : (sgA d)[15]? = some (.int .i64 d.env) := rfl
  have z16 : (sgA d)[16]? = some (.int .i64 d.ec) := rfl
  have x15 := h3.out.q0.cell 15
  have x16 := h3.out.q0.cell 16
  rw [z15] at x15
  rw [z16] at x16
  have g15 := h3.out.q0.frozen 15
  have g16 := h3.out.q0.frozen 16
  have h4 := hid ((h3.out.set 15 (.int .i64 0)).set 16 (.int .i64 0))
  rw [sgA_env] at h4
  clear h3 z15 z16 h8 hsl
  go_upto_region 7 with fail
  obtain ⟨W4, hW4⟩ : ∃ W, (wc.setCell ⟨w.heap.size, 15, none⟩ (.int .i64 0)).setCell ⟨w.heap.size, 16, none⟩ (.int .i64 0) = W := ⟨_, rfl⟩
  rw [hW4] at h4 ⊢
  clear hW4 x8 x15 x16 g15 g16
  obtain ⟨C, hC⟩ : ∃ C : Sg, { d with env := 0, ec := 0 } = C := ⟨_, rfl⟩
  rw [hC] at h4
  replace hC := hid hC
  have hrg := hid (sg_range h4.out.q0)
  have hth := hid (sg_there h4.out.q1 C)
  obtain ⟨tt, ht⟩ := sg_laid h4.out.q1 C
  replace ht := hid ht
  have hB := hid h4.out.bel
  clear h4
  go_wp2_with (first | (refine wpList_store_mid rfl 27 _ _ rfl (w.heap.size + 1) 0 (sgA C) rfl rfl hth.out (sg_size C) (sg_one C) ?_) | (refine wpList_load_mid rfl 27 _ rfl w.heap.size 0 rfl (sgA C).toList _ hrg.out Tryd.underlying27 rfl (sg_size C) ?_))
  exact bodyPost_ret (v := ansS (C, 0)) (results_cell_tmp Tryd.results12 _ _ (w.heap.size + 1) tt (sgA C) (0, 0) _ _ rfl rfl ht.out Tryd.underlying27 rfl (sg_size C)) rfl ⟨by have e2 := hd.out; have e1 := hC.out; subst e2; subst e1; rfl, lay_below _ _ _ (by omega) hB.out⟩
set_option maxRecDepth 100000 in
set_option maxHeartbeats 4000000 in
theorem wreg_impl1 (c : Sg) (s n : Nat) (w : World) (hP : PBit w) (hf : faultS c (n : Int) 255 = 0) (hn : n < 256) (hsel : c.sel = s) (hs8 : s < 8) (h7 : s ≠ 7) : Calls Tryd.prog 12 #[sgV c, .int .i64 (n : Int)] w fun e w' => e = .returned (ansS (c.put (Nat.land n (maskN s) : Nat) s, 0)) ∧ Below w.heap.size w w' := by
  have h7b : Hid (((s : Int) == 7) = false) := by
    show ((s : Int) == 7) = false
    rw [beq_eq_false_iff_ne]
    omega
  clear h7
  have rA : bits .and .i64 (n : Int) ((maskN s : Nat) : Int) = (Nat.land n (maskN s) : Nat) := bAnd n (maskN s) (by omega) (by have := maskN_lt s; omega)
  have hm := hid (fun w1 (h : PBit w1) => h s hs8)
  have hat := sgA_at c s hs8
  have hput := hid (fun x : Nat => sgA_put c s (x : Int) hs8)
  have hps := hid (fun x : Nat => put_sel c (x : Int) s)
  rw [hsel] at hps
  have h8 : (sgA c)[8]? = some (.int .i64 (s : Int)) := by rw [← hsel]; rfl
  replace hsel := hid hsel
  generalize c.reg s = y at *
  generalize maskN s = m at *
  generalize Nat.land n m = L at *
  have hs := hid (P2s.start w c 27 27)
  have hP1 := hid ((hP.alloc (.cells (sgA c) 27)).alloc (.cells (sgA zeS) 27))
  clear hP
  have hrg0 := hid (sg_range hs.out.q0)
  go_enter Tryd.func12, Tryd.ntmps12
  go_upto_region 1 with fail
  obtain ⟨V, hV⟩ : ∃ V, (w.alloc (.cells (sgA c) 27)).alloc (.cells (sgA zeS) 27) = V := ⟨_, rfl⟩
  rw [hV] at hs hrg0 hP1 ⊢
  clear hV
  go_wp2_with (refine wpList_load_mid rfl 27 _ rfl w.heap.size 0 rfl (sgA c).toList _ hrg0.out Tryd.underlying27 rfl (sg_size c) ?_)
  refine (pfault_S c (n : Int) 255 _ hP1.out).mono ?_
  rintro e w1 ⟨rfl, hb⟩
  rw [hf]
  have hP2 := hid (hP1.out.below hb)
  have h1 := hid (hs.out.below hb)
  clear hb hs hrg0 hP1
  clear hf
  have xm := hm.out _ hP2.out
  clear hm hP2
  have y8 := h1.out.q0.cell 8
  rw [h8] at y8
  have ys := h1.out.q0.cell s
  rw [hat] at ys
  have gs := h1.out.q0.frozen s
  have h3 := hid (h1.out.drew.set s (.int .i64 (L : Int)))
  rw [hput.out L] at h3
  clear h1 hput hat h8
  go_upto_region 4 with fail
  go_cut [] (fun wx => P2s w wx (sgA (c.put (L : Int) s)))
  case first =>
    go_region
    go_wp2_with fail
    go_meet
    exact h3.out
  case rest =>
  clear h3
  have h3 := hid hcut
  clear hcut xm y8 ys gs
  have hsl := hps.out L
  obtain ⟨d, hd⟩ : ∃ d, c.put (L : Int) s = d := ⟨_, rfl⟩
  rw [hd] at h3 hsl
  replace hd := hid hd
  have h8 : (sgA d)[8]? = some (.int .i64 (s : Int)) := by rw [← hsl]; rfl
  have x8 := h3.out.q0.cell 8
  rw [h8] at x8
  have h7c := h7b.out
  obtain ⟨C, hC⟩ : ∃ C : Sg, d = C := ⟨_, rfl⟩
  rw [hC] at h3
  have h4 := h3
  replace hC := hid hC
  clear h3 h8 hsl
  go_upto_region 7 with fail
  have hrg := hid (sg_range h4.out.q0)
  have hth := hid (sg_there h4.out.q1 C)
  obtain ⟨tt, ht⟩ := sg_laid h4.out.q1 C
  replace ht := hid ht
  have hB := hid h4.out.bel
  clear h4
  go_wp2_with (first | (refine wpList_store_mid rfl 27 _ _ rfl (w.heap.size + 1) 0 (sgA C) rfl rfl hth.out (sg_size C) (sg_one C) ?_) | (refine wpList_load_mid rfl 27 _ rfl w.heap.size 0 rfl (sgA C).toList _ hrg.out Tryd.underlying27 rfl (sg_size C) ?_))
  exact bodyPost_ret (v := ansS (C, 0)) (results_cell_tmp Tryd.results12 _ _ (w.heap.size + 1) tt (sgA C) (0, 0) _ _ rfl rfl ht.out Tryd.underlying27 rfl (sg_size C)) rfl ⟨by have e2 := hd.out; have e1 := hC.out; subst e2; subst e1; rfl, lay_below _ _ _ (by omega) hB.out⟩
theorem wreg_impl (c : Sg) (v : Int) (w : World) (hP : PBit w) : Calls Tryd.prog 12 #[sgV c, .int .i64 v] w fun e w' => e = .returned (ansS (write2 c v)) ∧ Below w.heap.size w w' := by
  cases hc : okS c
  · have e : write2 c v = (zeS, 1) := by unfold write2; rw [hc]; rfl
    rw [e]
    exact wreg_impl_bad1 c v w hP (by unfold faultS; rw [hc]; rfl)
  · cases hr : inB v 0 255
    · have e : write2 c v = (zeS, 4) := by unfold write2; rw [hc, hr]; rfl
      rw [e]
      exact wreg_impl_bad4 c v w hP (by unfold faultS; rw [hc, hr]; rfl)
    · obtain ⟨n, rfl, hn⟩ := byteS hr
      have e : write2 c (n : Int) = (c.write n, 0) := by unfold write2; rw [hc, hr]; simp only [if_true, Int.toNat_natCast]
      rw [e]
      have hf : faultS c (n : Int) 255 = 0 := by unfold faultS; rw [hc, hr]; rfl
      obtain ⟨s, hs, hs8⟩ := okS_sel hc
      rw [write_eq c s n hs]
      by_cases h7 : s = 7
      · rw [if_pos h7]
        exact wreg_impl0 c s n w hP hf hn hs hs8 h7
      · rw [if_neg h7]
        exact wreg_impl1 c s n w hP hf hn hs hs8 h7
set_option maxRecDepth 100000 in
set_option maxHeartbeats 4000000 in
theorem rreg_impl (c : Sg) (w : World) (hP : PBit w) : Calls Tryd.prog 14 #[sgV c] w fun e w' => e = .returned (.tuple #[.int .i64 (readS2 c).1, .int .i64 (readS2 c).2]) ∧ Below w.heap.size w w' := by
  have q := hid (Blk.new w (sgA c) 27)
  have hB := hid ((Below.refl w.heap.size w).alloc (Nat.le_refl _) (.cells (sgA c) 27))
  have hrg := hid (sg_range q.out)
  have hP1 := hid (hP.alloc (.cells (sgA c) 27))
  clear hP
  cases hc : okS c
  · have e : readS2 c = (0, 1) := by unfold readS2; rw [hc]; rfl
    rw [e]
    clear e
    go_enter Tryd.func14, Tryd.ntmps14
    go_upto_region 1 with fail
    obtain ⟨V, hV⟩ : ∃ V, w.alloc (.cells (sgA c) 27) = V := ⟨_, rfl⟩
    rw [hV] at q hB hrg hP1 ⊢
    clear hV
    go_wp2_with (refine wpList_load_mid rfl 27 _ rfl w.heap.size 0 rfl (sgA c).toList _ hrg.out Tryd.underlying27 rfl (sg_size c) ?_)
    refine (sok_impl c _ hP1.out).mono ?_
    rintro e w1 ⟨rfl, hb⟩
    rw [hc]
    have hB1 := hid (new_trans hB.out hb)
    skip
    clear hb hB q hrg hP1
    go_wp2_with fail
    go_ret2
    exact ⟨rfl, hB1.out⟩
  · obtain ⟨s, hs, hs8⟩ := okS_sel hc
    have e : readS2 c = (c.reg s, 0) := by unfold readS2; rw [hc, hs]; rfl
    rw [e]
    have h8 : (sgA c)[8]? = some (.int .i64 (s : Int)) := by rw [← hs]; rfl
    have hat := sgA_at c s hs8
    clear e
    replace hs := hid hs
    generalize c.reg s = y at *
    go_enter Tryd.func14, Tryd.ntmps14
    go_upto_region 1 with fail
    obtain ⟨V, hV⟩ : ∃ V, w.alloc (.cells (sgA c) 27) = V := ⟨_, rfl⟩
    rw [hV] at q hB hrg hP1 ⊢
    clear hV
    go_wp2_with (refine wpList_load_mid rfl 27 _ rfl w.heap.size 0 rfl (sgA c).toList _ hrg.out Tryd.underlying27 rfl (sg_size c) ?_)
    refine (sok_impl c _ hP1.out).mono ?_
    rintro e w1 ⟨rfl, hb⟩
    rw [hc]
    have hB1 := hid (new_trans hB.out hb)
    have q1 := q.out.below hb q.out.lt
    have y8 := q1.cell 8
    rw [h8] at y8
    have ys := q1.cell s
    rw [hat] at ys
    clear q1 h8 hat
    clear hb hB q hrg hP1
    go_wp2_with fail
    go_ret2
    exact ⟨rfl, hB1.out⟩
end Go.Proofs.YtjdgfbaioafjcaaDoor
