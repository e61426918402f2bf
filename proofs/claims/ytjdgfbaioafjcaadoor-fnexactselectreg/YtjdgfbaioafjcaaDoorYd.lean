/- Registers of the sound chip that are written and read: the specification. -/
import Derived.Test.YtjdgfbaioafjcaaDoorYc
import Derived.Deep.DeepCutAuto
namespace Go.Proofs.YtjdgfbaioafjcaaDoor
open Go.ChangeShapes Go.WideShapes Go.ChangeAt Go.RowKit
set_option linter.unusedVariables false
set_option linter.unusedSimpArgs false

theorem put_sel (c : Sg) (v : Int) (k : Nat) : (c.put v k).sel = c.sel := by
  unfold Sg.put
  split <;> rfl
theorem maskN_lt (r : Nat) : maskN r < 256 := by
  unfold maskN
  split <;> decide
theorem write_eq (c : Sg) (s v : Nat) (hs : c.sel = s) : c.write v = if s = 7 then { c.put (Nat.land v (maskN s) : Nat) s with env := 0, ec := 0 } else c.put (Nat.land v (maskN s) : Nat) s := by
  unfold Sg.write
  rw [hs, Int.toNat_natCast]
set_option maxRecDepth 100000 in
set_option maxHeartbeats 4000000 in
theorem swrite0_spec (c : Sg) (s v : Nat) (w : World) (hsel : c.sel = s) (hs8 : s < 8) (hv : v < 256) (h7 : s = 7) : Calls Tryd.prog 30 #[sgV c, .int .i64 (v : Int)] w fun e w' => e = .returned (sgV ({ c.put (Nat.land v (maskN s) : Nat) s with env := 0, ec := 0 })) ∧ Below w.heap.size w w' := by
  have h7b : Hid (((s : Int) == 7) = true) := by rw [h7]; rfl
  clear h7
  have hs := hid (P2s.start w c 27 27)
  have rA : bits .and .i64 (v : Int) ((maskN s : Nat) : Int) = (Nat.land v (maskN s) : Nat) := bAnd v (maskN s) (by omega) (by have := maskN_lt s; omega)
  have hm := hid (fun w1 => mask_spec s hs8 w1)
  have hat := sgA_at c s hs8
  have hput := hid (fun x : Nat => sgA_put c s (x : Int) hs8)
  have hps := hid (fun x : Nat => put_sel c (x : Int) s)
  rw [hsel] at hps
  have h8 : (sgA c)[8]? = some (.int .i64 (s : Int)) := by rw [← hsel]; rfl
  generalize c.reg s = y at *
  generalize maskN s = m at *
  generalize Nat.land v m = L at *
  go_enter Tryd.func30, Tryd.ntmps30
  go_upto_region 1 with fail
  obtain ⟨V, hV⟩ : ∃ V, (w.alloc (.cells (sgA c) 27)).alloc (.cells (sgA zeS) 27) = V := ⟨_, rfl⟩
  rw [hV] at hs ⊢
  clear hV
  have x8 := hs.out.q0.cell 8
  rw [h8] at x8
  have hD : Hid (Below V.heap.size V V.drew) := (Below.refl _ _).drew
  go_cut [] (fun wx => P2s w wx (sgA (c.put (L : Int) s)))
  case first =>
    go_region_with (go_at_call 42; refine (hm.out _).mono ?_; rintro e w2 ⟨rfl, hb2⟩; have h2 := hid (hs.out.below (new_trans hD.out hb2)); have y8 := h2.out.q0.cell 8; rw [h8] at y8; have ys := h2.out.q0.cell s; rw [hat] at ys; have gs := h2.out.q0.frozen s; clear hb2)
    all_goals
      have h3 := hid (h2.out.set s (.int .i64 (L : Int)))
      rw [hput.out L] at h3
    all_goals go_wp2_with fail
    all_goals go_meet
    all_goals exact h3.out
  case rest =>
  have h3 := hid hcut
  clear hs x8 hD hm hput hat h8 hcut
  have hsl := hps.out L
  obtain ⟨d, hd⟩ : ∃ d, c.put (L : Int) s = d := ⟨_, rfl⟩
  rw [hd] at h3 hsl
  replace hd := hid hd
  have h8 : (sgA d)[8]? = some (.int .i64 (s : Int)) := by rw [← hsl]; rfl
  have x8 := h3.out.q0.cell 8
  rw [h8] at x8
  have h7c := h7b.out
  have z15 : (sgA d)[15]? = some (.int .i64 d.env) := rfl
  have z16 : (sgA d)[16]? = some (.int .i64 d.ec) := rfl
  have x15 := h3.out.q0.cell 15
  have x16 := h3.out.q0.cell 16
  rw [z15] at x15
  rw [z16] at x16
  have g15 := h3.out.q0.frozen 15
  have g16 := h3.out.q0.frozen 16
  have h4 := hid ((h3.out.set 15 (.int .i64 0)).set 16 (.int .i64 0))
  rw [sgA_env] at h4
  clear h3 z15 z16 h8
  go_upto_region 5 with fail
  obtain ⟨W4, hW4⟩ : ∃ W, (wc.setCell ⟨w.heap.size, 15, none⟩ (.int .i64 0)).setCell ⟨w.heap.size, 16, none⟩ (.int .i64 0) = W := ⟨_, rfl⟩
  rw [hW4] at h4 ⊢
  clear hW4 x8 x15 x16 g15 g16
  obtain ⟨C, hC⟩ : ∃ C : Sg, { d with env := 0, ec := 0 } = C := ⟨_, rfl⟩
  rw [hC] at h4
  replace hC := hid hC
  have hrg := hid (sg_range h4.out.q0)
  have hth := hid (sg_there h4.out.q1 C)
  obtain ⟨tt, ht⟩ := sg_laid h4.out.q1 C
  replace ht := hid ht
  have hB := hid h4.out.bel
  clear h4
  go_wp2_with (first | (refine wpList_store_mid rfl 27 _ _ rfl (w.heap.size + 1) 0 (sgA C) rfl rfl hth.out (sg_size C) (sg_one C) ?_) | (refine wpList_load_mid rfl 27 _ rfl w.heap.size 0 rfl (sgA C).toList _ hrg.out Tryd.underlying27 rfl (sg_size C) ?_))
  exact bodyPost_ret (v := sgV C) (results_cell_row Tryd.results30 _ _ (w.heap.size + 1) tt (sgA C) (0, 0) _ rfl ht.out Tryd.underlying27 rfl (sg_size C)) rfl ⟨by have e2 := hd.out; have e1 := hC.out; subst e2; subst e1; rfl, lay_below _ _ _ (by omega) hB.out⟩
set_option maxRecDepth 100000 in
set_option maxHeartbeats 4000000 in
theorem swrite1_spec (c : Sg) (s v : Nat) (w : World) (hsel : c.sel = s) (hs8 : s < 8) (hv : v < 256) (h7 : s ≠ 7) : Calls Tryd.prog 30 #[sgV c, .int .i64 (v : Int)] w fun e w' => e = .returned (sgV (c.put (Nat.land v (maskN s) : Nat) s)) ∧ Below w.heap.size w w' := by
  have h7b : Hid (((s : Int) == 7) = false) := by
    show ((s : Int) == 7) = false
    rw [beq_eq_false_iff_ne]
    omega
  clear h7
  have hs := hid (P2s.start w c 27 27)
  have rA : bits .and .i64 (v : Int) ((maskN s : Nat) : Int) = (Nat.land v (maskN s) : Nat) := bAnd v (maskN s) (by omega) (by have := maskN_lt s; omega)
  have hm := hid (fun w1 => mask_spec s hs8 w1)
  have hat := sgA_at c s hs8
  have hput := hid (fun x : Nat => sgA_put c s (x : Int) hs8)
  have hps := hid (fun x : Nat => put_sel c (x : Int) s)
  rw [hsel] at hps
  have h8 : (sgA c)[8]? = some (.int .i64 (s : Int)) := by rw [← hsel]; rfl
  generalize c.reg s = y at *
  generalize maskN s = m at *
  generalize Nat.land v m = L at *
  go_enter Tryd.func30, Tryd.ntmps30
  go_upto_region 1 with fail
  obtain ⟨V, hV⟩ : ∃ V, (w.alloc (.cells (sgA c) 27)).alloc (.cells (sgA zeS) 27) = V := ⟨_, rfl⟩
  rw [hV] at hs ⊢
  clear hV
  have x8 := hs.out.q0.cell 8
  rw [h8] at x8
  have hD : Hid (Below V.heap.size V V.drew) := (Below.refl _ _).drew
  go_cut [] (fun wx => P2s w wx (sgA (c.put (L : Int) s)))
  case first =>
    go_region_with (go_at_call 42; refine (hm.out _).mono ?_; rintro e w2 ⟨rfl, hb2⟩; have h2 := hid (hs.out.below (new_trans hD.out hb2)); have y8 := h2.out.q0.cell 8; rw [h8] at y8; have ys := h2.out.q0.cell s; rw [hat] at ys; have gs := h2.out.q0.frozen s; clear hb2)
    all_goals
      have h3 := hid (h2.out.set s (.int .i64 (L : Int)))
      rw [hput.out L] at h3
    all_goals go_wp2_with fail
    all_goals go_meet
    all_goals exact h3.out
  case rest =>
  have h3 := hid hcut
  clear hs x8 hD hm hput hat h8 hcut
  have hsl := hps.out L
  obtain ⟨d, hd⟩ : ∃ d, c.put (L : Int) s = d := ⟨_, rfl⟩
  rw [hd] at h3 hsl
  replace hd := hid hd
  have h8 : (sgA d)[8]? = some (.int .i64 (s : Int)) := by rw [← hsl]; rfl
  have x8 := h3.out.q0.cell 8
  rw [h8] at x8
  have h7c := h7b.out
  obtain ⟨C, hC⟩ : ∃ C : Sg, d = C := ⟨_, rfl⟩
  rw [hC] at h3
  have h4 := h3
  replace hC := hid hC
  clear h3 h8
  go_upto_region 5 with fail
  have hrg := hid (sg_range h4.out.q0)
  have hth := hid (sg_there h4.out.q1 C)
  obtain ⟨tt, ht⟩ := sg_laid h4.out.q1 C
  replace ht := hid ht
  have hB := hid h4.out.bel
  clear h4
  go_wp2_with (first | (refine wpList_store_mid rfl 27 _ _ rfl (w.heap.size + 1) 0 (sgA C) rfl rfl hth.out (sg_size C) (sg_one C) ?_) | (refine wpList_load_mid rfl 27 _ rfl w.heap.size 0 rfl (sgA C).toList _ hrg.out Tryd.underlying27 rfl (sg_size C) ?_))
  exact bodyPost_ret (v := sgV C) (results_cell_row Tryd.results30 _ _ (w.heap.size + 1) tt (sgA C) (0, 0) _ rfl ht.out Tryd.underlying27 rfl (sg_size C)) rfl ⟨by have e2 := hd.out; have e1 := hC.out; subst e2; subst e1; rfl, lay_below _ _ _ (by omega) hB.out⟩
theorem swrite_spec (c : Sg) (v : Nat) (w : World) (hok : okS c = true) (hv : v < 256) : Calls Tryd.prog 30 #[sgV c, .int .i64 (v : Int)] w fun e w' => e = .returned (sgV (c.write v)) ∧ Below w.heap.size w w' := by
  obtain ⟨s, hs, hs8⟩ := okS_sel hok
  rw [write_eq c s v hs]
  by_cases h7 : s = 7
  · rw [if_pos h7]
    exact swrite0_spec c s v w hs hs8 hv h7
  · rw [if_neg h7]
    exact swrite1_spec c s v w hs hs8 hv h7
set_option maxRecDepth 100000 in
set_option maxHeartbeats 2000000 in
theorem wreg_spec_bad (c : Sg) (v : Int) (w : World) (hc : okS c = false) : Calls Tryd.prog 13 #[sgV c, .int .i64 v] w fun e w' => e = .returned (ansS (write2 c v)) ∧ Below w.heap.size w w' := by
  have hs := hid (P2s.start w c 27 27)
  have hok := hid (fun w1 => sok_spec c w1)
  have e : write2 c v = (zeS, 1) := by unfold write2; rw [hc]; rfl
  rw [e]
  rw [hc] at hok
  clear e
  have hrg0 := hid (sg_range hs.out.q0)
  go_enter Tryd.func13, Tryd.ntmps13
  go_upto_region 1 with fail
  obtain ⟨V, hV⟩ : ∃ V, (w.alloc (.cells (sgA c) 27)).alloc (.cells (sgA zeS) 27) = V := ⟨_, rfl⟩
  rw [hV] at hs hrg0 ⊢
  clear hV
  go_wp2_with (refine wpList_load_mid rfl 27 _ rfl w.heap.size 0 rfl (sgA c).toList _ hrg0.out Tryd.underlying27 rfl (sg_size c) ?_)
  refine (hok.out _).mono ?_
  rintro e w1 ⟨rfl, hb⟩
  have h1 := hid (hs.out.below hb)
  clear hb hs hrg0
  have hth := hid (sg_there h1.out.q1 zeS)
  obtain ⟨tt, ht⟩ := sg_laid h1.out.q1 zeS
  replace ht := hid ht
  have hB := hid h1.out.bel
  clear h1
  go_wp2_with (first | (refine wpList_store_mid rfl 27 _ _ rfl (w.heap.size + 1) 0 (sgA zeS) rfl rfl hth.out (sg_size zeS) (sg_one zeS) ?_))
  exact bodyPost_ret (v := ansS (zeS, 1)) (results_cell_tmp Tryd.results13 _ _ (w.heap.size + 1) tt (sgA zeS) (0, 0) _ _ rfl rfl ht.out Tryd.underlying27 rfl (sg_size zeS)) rfl ⟨rfl, lay_below _ _ _ (by omega) hB.out⟩
set_option maxRecDepth 100000 in
set_option maxHeartbeats 2000000 in
theorem wreg_spec_rng (c : Sg) (v : Int) (w : World) (hc : okS c = true) (hr : inB v 0 255 = false) : Calls Tryd.prog 13 #[sgV c, .int .i64 v] w fun e w' => e = .returned (ansS (write2 c v)) ∧ Below w.heap.size w w' := by
  have hs := hid (P2s.start w c 27 27)
  have hok := hid (fun w1 => sok_spec c w1)
  have e : write2 c v = (zeS, 4) := by unfold write2; rw [hc, hr]; rfl
  rw [e]
  rw [hc] at hok
  clear e
  have hrg0 := hid (sg_range hs.out.q0)
  go_enter Tryd.func13, Tryd.ntmps13
  go_upto_region 1 with fail
  obtain ⟨V, hV⟩ : ∃ V, (w.alloc (.cells (sgA c) 27)).alloc (.cells (sgA zeS) 27) = V := ⟨_, rfl⟩
  rw [hV] at hs hrg0 ⊢
  clear hV
  go_wp2_with (refine wpList_load_mid rfl 27 _ rfl w.heap.size 0 rfl (sgA c).toList _ hrg0.out Tryd.underlying27 rfl (sg_size c) ?_)
  refine (hok.out _).mono ?_
  rintro e w1 ⟨rfl, hb⟩
  have h1 := hid (hs.out.below hb)
  clear hb hs hrg0
  have hth := hid (sg_there h1.out.q1 zeS)
  obtain ⟨tt, ht⟩ := sg_laid h1.out.q1 zeS
  replace ht := hid ht
  have hB := hid h1.out.bel
  clear h1
  go_wp2_with (first | (refine wpList_store_mid rfl 27 _ _ rfl (w.heap.size + 1) 0 (sgA zeS) rfl rfl hth.out (sg_size zeS) (sg_one zeS) ?_) | (go_at_call 29; refine (byteM_spec _ _).mono ?_; rintro e w' ⟨rfl, hww⟩; obtain rfl := hww.symm; rw [hr]))
  exact bodyPost_ret (v := ansS (zeS, 4)) (results_cell_tmp Tryd.results13 _ _ (w.heap.size + 1) tt (sgA zeS) (0, 0) _ _ rfl rfl ht.out Tryd.underlying27 rfl (sg_size zeS)) rfl ⟨rfl, lay_below _ _ _ (by omega) hB.out⟩
set_option maxRecDepth 100000 in
set_option maxHeartbeats 2000000 in
theorem wreg_spec_ok (c : Sg) (v : Int) (w : World) (hc : okS c = true) (hr : inB v 0 255 = true) : Calls Tryd.prog 13 #[sgV c, .int .i64 v] w fun e w' => e = .returned (ansS (write2 c v)) ∧ Below w.heap.size w w' := by
  have hs := hid (P2s.start w c 27 27)
  have hok := hid (fun w1 => sok_spec c w1)
  rw [hc] at hok
  obtain ⟨n, rfl, hn⟩ := byteS hr
  have e : write2 c (n : Int) = (c.write n, 0) := by unfold write2; rw [hc, hr]; simp only [if_true, Int.toNat_natCast]
  rw [e]
  clear e
  have hW := hid (fun w1 => swrite_spec c n w1 hc hn)
  generalize c.write n = C at *
  have hrg0 := hid (sg_range hs.out.q0)
  go_enter Tryd.func13, Tryd.ntmps13
  go_upto_region 1 with fail
  obtain ⟨V, hV⟩ : ∃ V, (w.alloc (.cells (sgA c) 27)).alloc (.cells (sgA zeS) 27) = V := ⟨_, rfl⟩
  rw [hV] at hs hrg0 ⊢
  clear hV
  go_wp2_with (refine wpList_load_mid rfl 27 _ rfl w.heap.size 0 rfl (sgA c).toList _ hrg0.out Tryd.underlying27 rfl (sg_size c) ?_)
  refine (hok.out _).mono ?_
  rintro e w1 ⟨rfl, hb⟩
  have h1 := hid (hs.out.below hb)
  clear hb hs hrg0
  have hrg := hid (sg_range h1.out.q0)
  go_wp2_with (first | (go_at_call 29; refine (byteM_spec _ _).mono ?_; rintro e w' ⟨rfl, hww⟩; obtain rfl := hww.symm; rw [hr]) | (refine wpList_load_mid rfl 27 _ rfl w.heap.size 0 rfl (sgA c).toList _ hrg.out Tryd.underlying27 rfl (sg_size c) ?_))
  refine (hW.out _).mono ?_
  rintro e w2 ⟨rfl, hb⟩
  have h2 := hid (h1.out.below hb)
  clear h1 hb hrg
  have hth := hid (sg_there h2.out.q1 C)
  obtain ⟨tt, ht⟩ := sg_laid h2.out.q1 C
  replace ht := hid ht
  have hB := hid h2.out.bel
  clear h2
  go_wp2_with (first | (refine wpList_store_mid rfl 27 _ _ rfl (w.heap.size + 1) 0 (sgA C) rfl rfl hth.out (sg_size C) (sg_one C) ?_))
  exact bodyPost_ret (v := ansS (C, 0)) (results_cell_tmp Tryd.results13 _ _ (w.heap.size + 1) tt (sgA C) (0, 0) _ _ rfl rfl ht.out Tryd.underlying27 rfl (sg_size C)) rfl ⟨rfl, lay_below _ _ _ (by omega) hB.out⟩
theorem wreg_spec (c : Sg) (v : Int) (w : World) : Calls Tryd.prog 13 #[sgV c, .int .i64 v] w fun e w' => e = .returned (ansS (write2 c v)) ∧ Below w.heap.size w w' := by
  cases hc : okS c
  · exact wreg_spec_bad c v w hc
  · cases hr : inB v 0 255
    · exact wreg_spec_rng c v w hc hr
    · exact wreg_spec_ok c v w hc hr
end Go.Proofs.YtjdgfbaioafjcaaDoor
