/- So many ticks of the sound chip: the specification and the program. -/
import Derived.Test.YtjdgfbaioafjcaaDoorYt
import Derived.Test.YtjdgfbaioafjcaaDoorYq
namespace Go.Proofs.YtjdgfbaioafjcaaDoor
open Go.ChangeShapes Go.WideShapes Go.ChangeAt Go.RowKit
set_option linter.unusedVariables false
set_option linter.unusedSimpArgs false

theorem lay_other {b g : Nat} {A : Array Value} (h : b ≠ g) (vs : List Value) : ∀ (o : Nat) (W : World), Blk W b A → Blk (W.setCells g o vs) b A := by
  induction vs with
  | nil => exact fun o W h => h
  | cons u t ih => exact fun o W hb => ih _ _ (hb.other (by simp; omega) u)
theorem P2s.lay {w W : World} {z : Sg} (h : P2s w W (sgA z)) (c : Sg) : P2s w (W.setCells w.heap.size 0 (sgA c).toList) (sgA c) :=
  ⟨sg_laid h.q0 c, lay_other (by omega) _ _ _ h.q1, lay_below _ _ _ (Nat.le_refl _) h.bel⟩
def step2 (p : Sg) (v : Int) : Sg × Int := if okS p = true then (if inB v 0 1000 = true then (p.steps v.toNat, 0) else (zeS, 4)) else (zeS, 1)
theorem milS {k : Int} (h : inB k 0 1000 = true) : ∃ n : Nat, k = n ∧ n ≤ 1000 := by
  simp [inB] at h
  exact ⟨k.toNat, by omega, by omega⟩
set_option maxRecDepth 100000 in
set_option maxHeartbeats 4000000 in
theorem stepp_spec_bad1 (c : Sg) (v : Int) (w : World) (hc : okS c = false) : Calls Tryd.prog 18 #[sgV c, .int .i64 v] w fun e w' => e = .returned (ansS (zeS, 1)) ∧ Below w.heap.size w w' := by
  have hs := hid (P2s.start w c 27 27)
  have hok := hid (fun w1 => sok_spec c w1)
  rw [hc] at hok
  have hrg0 := hid (sg_range hs.out.q0)
  go_enter Tryd.func18, Tryd.ntmps18
  go_upto_region 1 with fail
  obtain ⟨V, hV⟩ : ∃ V, (w.alloc (.cells (sgA c) 27)).alloc (.cells (sgA zeS) 27) = V := ⟨_, rfl⟩
  rw [hV] at hs hrg0 ⊢
  clear hV
  go_wp2_with (refine wpList_load_mid rfl 27 _ rfl w.heap.size 0 rfl (sgA c).toList _ hrg0.out Tryd.underlying27 rfl (sg_size c) ?_)
  refine (hok.out _).mono ?_
  rintro e w1 ⟨rfl, hb⟩
  have h1 := hid (hs.out.below hb)
  clear hb hs hrg0
  have hth := hid (sg_there h1.out.q1 zeS)
  obtain ⟨tt, ht⟩ := sg_laid h1.out.q1 zeS
  replace ht := hid ht
  have hB := hid h1.out.bel
  clear h1
  go_wp2_with (first | (refine wpList_store_mid rfl 27 _ _ rfl (w.heap.size + 1) 0 (sgA zeS) rfl rfl hth.out (sg_size zeS) (sg_one zeS) ?_))
  exact bodyPost_ret (v := ansS (zeS, 1)) (results_cell_tmp Tryd.results18 _ _ (w.heap.size + 1) tt (sgA zeS) (0, 0) _ _ rfl rfl ht.out Tryd.underlying27 rfl (sg_size zeS)) rfl ⟨rfl, lay_below _ _ _ (by omega) hB.out⟩
set_option maxRecDepth 100000 in
set_option maxHeartbeats 4000000 in
theorem stepp_spec_bad4 (c : Sg) (v : Int) (w : World) (hc : okS c = true) (hr : inB v 0 1000 = false) : Calls Tryd.prog 18 #[sgV c, .int .i64 v] w fun e w' => e = .returned (ansS (zeS, 4)) ∧ Below w.heap.size w w' := by
  have hs := hid (P2s.start w c 27 27)
  have hok := hid (fun w1 => sok_spec c w1)
  rw [hc] at hok
  have hrg0 := hid (sg_range hs.out.q0)
  go_enter Tryd.func18, Tryd.ntmps18
  go_upto_region 1 with fail
  obtain ⟨V, hV⟩ : ∃ V, (w.alloc (.cells (sgA c) 27)).alloc (.cells (sgA zeS) 27) = V := ⟨_, rfl⟩
  rw [hV] at hs hrg0 ⊢
  clear hV
  go_wp2_with (refine wpList_load_mid rfl 27 _ rfl w.heap.size 0 rfl (sgA c).toList _ hrg0.out Tryd.underlying27 rfl (sg_size c) ?_)
  refine (hok.out _).mono ?_
  rintro e w1 ⟨rfl, hb⟩
  have h1 := hid (hs.out.below hb)
  clear hb hs hrg0
  have hth := hid (sg_there h1.out.q1 zeS)
  obtain ⟨tt, ht⟩ := sg_laid h1.out.q1 zeS
  replace ht := hid ht
  have hB := hid h1.out.bel
  clear h1
  go_wp2_with (first | (refine wpList_store_mid rfl 27 _ _ rfl (w.heap.size + 1) 0 (sgA zeS) rfl rfl hth.out (sg_size zeS) (sg_one zeS) ?_) | (go_at_call 35; refine (in_spec _ _ _ _).mono ?_; rintro e w' ⟨rfl, hww⟩; obtain rfl := hww.symm; rw [hr]))
  exact bodyPost_ret (v := ansS (zeS, 4)) (results_cell_tmp Tryd.results18 _ _ (w.heap.size + 1) tt (sgA zeS) (0, 0) _ _ rfl rfl ht.out Tryd.underlying27 rfl (sg_size zeS)) rfl ⟨rfl, lay_below _ _ _ (by omega) hB.out⟩
set_option maxRecDepth 100000 in
set_option maxHeartbeats 4000000 in
theorem stepp_spec_ok (c : Sg) (n : Nat) (w : World) (hc : okS c = true) (hr : inB (n : Int) 0 1000 = true) (hn : n ≤ 1000) : Calls Tryd.prog 18 #[sgV c, .int .i64 (n : Int)] w fun e w' => e = .returned (ansS (c.steps n, 0)) ∧ Below w.heap.size w w' := by
  have hs := hid (P2s.start w c 27 27)
  have hok := hid (fun w1 => sok_spec c w1)
  rw [hc] at hok
  have hst : Hid (∀ (k : Nat) (w1 : World), Calls Tryd.prog 36 #[sgV (c.steps k)] w1 fun e w' => e = .returned (sgV (c.steps (k + 1))) ∧ Below w1.heap.size w1 w') := fun k w1 => sstep_spec (c.steps k) w1 (okS_steps hc k)
  clear hc
  have hrg0 := hid (sg_range hs.out.q0)
  go_enter Tryd.func18, Tryd.ntmps18
  go_upto_region 1 with fail
  obtain ⟨V, hV⟩ : ∃ V, (w.alloc (.cells (sgA c) 27)).alloc (.cells (sgA zeS) 27) = V := ⟨_, rfl⟩
  rw [hV] at hs hrg0 ⊢
  clear hV
  go_wp2_with (refine wpList_load_mid rfl 27 _ rfl w.heap.size 0 rfl (sgA c).toList _ hrg0.out Tryd.underlying27 rfl (sg_size c) ?_)
  refine (hok.out _).mono ?_
  rintro e w1 ⟨rfl, hb⟩
  have h1 := hid (hs.out.below hb)
  clear hb hs hrg0 hok
  go_wp2_with (go_at_call 35; refine (in_spec _ _ _ _).mono ?_; rintro e w' ⟨rfl, hww⟩; obtain rfl := hww.symm; rw [hr])
  go_loopw [6] (fun i wr => ∃ k : Nat, k ≤ n ∧ i = .int .i64 k ∧ P2s w wr (sgA (c.steps k))) (fun i _ => n - (intOf i).toNat)
  case atStart => exact ⟨0, by omega, rfl, h1.out⟩
  case round =>
    obtain ⟨k, hk, rfl, hS⟩ := hrel
    clear h1
    by_cases hlt : k < n
    · have hst2 := hid (fun w1 => hst.out k w1)
      have hrg := hid (sg_range hS.q0)
      generalize c.steps k = P at *
      obtain ⟨P2, hP2⟩ : ∃ P2, c.steps (k + 1) = P2 := ⟨_, rfl⟩
      rw [hP2] at hst2
      replace hP2 := hid hP2
      replace hS := hid hS
      go_wp2_with (refine wpList_load_mid rfl 27 _ rfl w.heap.size 0 rfl (sgA P).toList _ hrg.out Tryd.underlying27 rfl (sg_size P) ?_)
      refine (hst2.out _).mono ?_
      rintro e w2 ⟨rfl, hb⟩
      have h2 := hid (hS.out.below hb)
      have hth := hid (sg_there h2.out.q0 P2)
      have h3 := hid (h2.out.lay P2)
      clear hb hS hrg h2 hst2
      go_wp2_with (guard_target = wpList _ _ _ (Oper.mk _ (Op.store _ _ _) _ _ _ _ :: _) _ _; refine wpList_store_mid rfl 27 _ _ rfl w.heap.size 0 (sgA P2) rfl rfl hth.out (sg_size P2) (sg_one P2) ?_)
      go_roundw
      case rel => exact ⟨k + 1, by omega, by go_num, by rw [hP2.out]; exact h3.out⟩
      case measure => simp [intOf]; omega
    · obtain rfl : k = n := by omega
      obtain ⟨C, hC⟩ : ∃ C : Sg, c.steps k = C := ⟨_, rfl⟩
      rw [hC] at hS
      replace hC := hid hC
      replace hS := hid hS
      have hrg := hid (sg_range hS.out.q0)
      have hth := hid (sg_there hS.out.q1 C)
      obtain ⟨tt, ht⟩ := sg_laid hS.out.q1 C
      replace ht := hid ht
      have hB := hid hS.out.bel
      clear hS
      go_wp2_with (first | (refine wpList_store_mid rfl 27 _ _ rfl (w.heap.size + 1) 0 (sgA C) rfl rfl hth.out (sg_size C) (sg_one C) ?_) | (refine wpList_load_mid rfl 27 _ rfl w.heap.size 0 rfl (sgA C).toList _ hrg.out Tryd.underlying27 rfl (sg_size C) ?_))
      exact bodyPost_ret (v := ansS (C, 0)) (results_cell_tmp Tryd.results18 _ _ (w.heap.size + 1) tt (sgA C) (0, 0) _ _ rfl rfl ht.out Tryd.underlying27 rfl (sg_size C)) rfl ⟨by rw [hC.out], lay_below _ _ _ (by omega) hB.out⟩
theorem stepp_spec (c : Sg) (v : Int) (w : World) : Calls Tryd.prog 18 #[sgV c, .int .i64 v] w fun e w' => e = .returned (ansS (step2 c v)) ∧ Below w.heap.size w w' := by
  cases hc : okS c
  · have e : step2 c v = (zeS, 1) := by unfold step2; rw [hc]; rfl
    rw [e]
    exact stepp_spec_bad1 c v w hc
  · cases hr : inB v 0 1000
    · have e : step2 c v = (zeS, 4) := by unfold step2; rw [hc, hr]; rfl
      rw [e]
      exact stepp_spec_bad4 c v w hc hr
    · obtain ⟨n, rfl, hn⟩ := milS hr
      have e : step2 c (n : Int) = (c.steps n, 0) := by unfold step2; rw [hc, hr]; simp only [if_true, Int.toNat_natCast]
      rw [e]
      exact stepp_spec_ok c n w hc hr hn
set_option maxRecDepth 100000 in
set_option maxHeartbeats 4000000 in
theorem stepp_impl_bad1 (c : Sg) (v : Int) (w : World) (hP : PBit w) (hf : faultS c v 1000 = 1) : Calls Tryd.prog 17 #[sgV c, .int .i64 v] w fun e w' => e = .returned (ansS (zeS, 1)) ∧ Below w.heap.size w w' := by
  have hs := hid (P2s.start w c 27 27)
  have hP1 := hid ((hP.alloc (.cells (sgA c) 27)).alloc (.cells (sgA zeS) 27))
  clear hP
  have hrg0 := hid (sg_range hs.out.q0)
  go_enter Tryd.func17, Tryd.ntmps17
  go_upto_region 1 with fail
  obtain ⟨V, hV⟩ : ∃ V, (w.alloc (.cells (sgA c) 27)).alloc (.cells (sgA zeS) 27) = V := ⟨_, rfl⟩
  rw [hV] at hs hrg0 hP1 ⊢
  clear hV
  go_wp2_with (refine wpList_load_mid rfl 27 _ rfl w.heap.size 0 rfl (sgA c).toList _ hrg0.out Tryd.underlying27 rfl (sg_size c) ?_)
  refine (pfault_S c v 1000 _ hP1.out).mono ?_
  rintro e w1 ⟨rfl, hb⟩
  rw [hf]
  have hP2 := hid (hP1.out.below hb)
  have h1 := hid (hs.out.below hb)
  clear hb hs hrg0 hP1
  clear hP2 hf
  have hth := hid (sg_there h1.out.q1 zeS)
  obtain ⟨tt, ht⟩ := sg_laid h1.out.q1 zeS
  replace ht := hid ht
  have hB := hid h1.out.bel
  clear h1
  go_wp2_with (refine wpList_store_mid rfl 27 _ _ rfl (w.heap.size + 1) 0 (sgA zeS) rfl rfl hth.out (sg_size zeS) (sg_one zeS) ?_)
  exact bodyPost_ret (v := ansS (zeS, 1)) (results_cell_tmp Tryd.results17 _ _ (w.heap.size + 1) tt (sgA zeS) (0, 0) _ _ rfl rfl ht.out Tryd.underlying27 rfl (sg_size zeS)) rfl ⟨rfl, lay_below _ _ _ (by omega) hB.out⟩
set_option maxRecDepth 100000 in
set_option maxHeartbeats 4000000 in
theorem stepp_impl_bad4 (c : Sg) (v : Int) (w : World) (hP : PBit w) (hf : faultS c v 1000 = 4) : Calls Tryd.prog 17 #[sgV c, .int .i64 v] w fun e w' => e = .returned (ansS (zeS, 4)) ∧ Below w.heap.size w w' := by
  have hs := hid (P2s.start w c 27 27)
  have hP1 := hid ((hP.alloc (.cells (sgA c) 27)).alloc (.cells (sgA zeS) 27))
  clear hP
  have hrg0 := hid (sg_range hs.out.q0)
  go_enter Tryd.func17, Tryd.ntmps17
  go_upto_region 1 with fail
  obtain ⟨V, hV⟩ : ∃ V, (w.alloc (.cells (sgA c) 27)).alloc (.cells (sgA zeS) 27) = V := ⟨_, rfl⟩
  rw [hV] at hs hrg0 hP1 ⊢
  clear hV
  go_wp2_with (refine wpList_load_mid rfl 27 _ rfl w.heap.size 0 rfl (sgA c).toList _ hrg0.out Tryd.underlying27 rfl (sg_size c) ?_)
  refine (pfault_S c v 1000 _ hP1.out).mono ?_
  rintro e w1 ⟨rfl, hb⟩
  rw [hf]
  have hP2 := hid (hP1.out.below hb)
  have h1 := hid (hs.out.below hb)
  clear hb hs hrg0 hP1
  clear hP2 hf
  have hth := hid (sg_there h1.out.q1 zeS)
  obtain ⟨tt, ht⟩ := sg_laid h1.out.q1 zeS
  replace ht := hid ht
  have hB := hid h1.out.bel
  clear h1
  go_wp2_with (refine wpList_store_mid rfl 27 _ _ rfl (w.heap.size + 1) 0 (sgA zeS) rfl rfl hth.out (sg_size zeS) (sg_one zeS) ?_)
  exact bodyPost_ret (v := ansS (zeS, 4)) (results_cell_tmp Tryd.results17 _ _ (w.heap.size + 1) tt (sgA zeS) (0, 0) _ _ rfl rfl ht.out Tryd.underlying27 rfl (sg_size zeS)) rfl ⟨rfl, lay_below _ _ _ (by omega) hB.out⟩
set_option maxRecDepth 100000 in
set_option maxHeartbeats 4000000 in
theorem stepp_impl_ok (c : Sg) (n : Nat) (w : World) (hP : PBit w) (hc : okS c = true) (hf : faultS c (n : Int) 1000 = 0) (hn : n ≤ 1000) : Calls Tryd.prog 17 #[sgV c, .int .i64 (n : Int)] w fun e w' => e = .returned (ansS (c.steps n, 0)) ∧ Below w.heap.size w w' := by
  have hst : Hid (∀ (k : Nat) (w1 : World), Calls Tryd.prog 34 #[sgV (c.steps k)] w1 fun e w' => e = .returned (sgV (c.steps (k + 1))) ∧ Below w1.heap.size w1 w') := fun k w1 => ticked_impl (c.steps k) w1 (okS_steps hc k)
  clear hc
  have hs := hid (P2s.start w c 27 27)
  have hP1 := hid ((hP.alloc (.cells (sgA c) 27)).alloc (.cells (sgA zeS) 27))
  clear hP
  have hrg0 := hid (sg_range hs.out.q0)
  go_enter Tryd.func17, Tryd.ntmps17
  go_upto_region 1 with fail
  obtain ⟨V, hV⟩ : ∃ V, (w.alloc (.cells (sgA c) 27)).alloc (.cells (sgA zeS) 27) = V := ⟨_, rfl⟩
  rw [hV] at hs hrg0 hP1 ⊢
  clear hV
  go_wp2_with (refine wpList_load_mid rfl 27 _ rfl w.heap.size 0 rfl (sgA c).toList _ hrg0.out Tryd.underlying27 rfl (sg_size c) ?_)
  refine (pfault_S c (n : Int) 1000 _ hP1.out).mono ?_
  rintro e w1 ⟨rfl, hb⟩
  rw [hf]
  have hP2 := hid (hP1.out.below hb)
  have h1 := hid (hs.out.below hb)
  clear hb hs hrg0 hP1
  clear hf hP2
  go_wp2_with fail
  go_loopw [15] (fun i wr => ∃ k : Nat, k ≤ n ∧ i = .int .i64 k ∧ P2s w wr (sgA (c.steps k))) (fun i _ => n - (intOf i).toNat)
  case atStart => exact ⟨0, by omega, rfl, h1.out⟩
  case round =>
    obtain ⟨k, hk, rfl, hS⟩ := hrel
    clear h1
    by_cases hlt : k < n
    · have hst2 := hid (fun w1 => hst.out k w1)
      have hrg := hid (sg_range hS.q0)
      generalize c.steps k = P at *
      obtain ⟨P2, hP2⟩ : ∃ P2, c.steps (k + 1) = P2 := ⟨_, rfl⟩
      rw [hP2] at hst2
      replace hP2 := hid hP2
      replace hS := hid hS
      go_wp2_with (refine wpList_load_mid rfl 27 _ rfl w.heap.size 0 rfl (sgA P).toList _ hrg.out Tryd.underlying27 rfl (sg_size P) ?_)
      refine (hst2.out _).mono ?_
      rintro e w2 ⟨rfl, hb⟩
      have h2 := hid (hS.out.below hb)
      have hth := hid (sg_there h2.out.q0 P2)
      have h3 := hid (h2.out.lay P2)
      clear hb hS hrg h2 hst2
      go_wp2_with (guard_target = wpList _ _ _ (Oper.mk _ (Op.store _ _ _) _ _ _ _ :: _) _ _; refine wpList_store_mid rfl 27 _ _ rfl w.heap.size 0 (sgA P2) rfl rfl hth.out (sg_size P2) (sg_one P2) ?_)
      go_roundw
      case rel => exact ⟨k + 1, by omega, by go_num, by rw [hP2.out]; exact h3.out⟩
      case measure => simp [intOf]; omega
    · obtain rfl : k = n := by omega
      obtain ⟨C, hC⟩ : ∃ C : Sg, c.steps k = C := ⟨_, rfl⟩
      rw [hC] at hS
      replace hC := hid hC
      replace hS := hid hS
      have hrg := hid (sg_range hS.out.q0)
      have hth := hid (sg_there hS.out.q1 C)
      obtain ⟨tt, ht⟩ := sg_laid hS.out.q1 C
      replace ht := hid ht
      have hB := hid hS.out.bel
      clear hS
      go_wp2_with (first | (refine wpList_store_mid rfl 27 _ _ rfl (w.heap.size + 1) 0 (sgA C) rfl rfl hth.out (sg_size C) (sg_one C) ?_) | (refine wpList_load_mid rfl 27 _ rfl w.heap.size 0 rfl (sgA C).toList _ hrg.out Tryd.underlying27 rfl (sg_size C) ?_))
      exact bodyPost_ret (v := ansS (C, 0)) (results_cell_tmp Tryd.results17 _ _ (w.heap.size + 1) tt (sgA C) (0, 0) _ _ rfl rfl ht.out Tryd.underlying27 rfl (sg_size C)) rfl ⟨by rw [hC.out], lay_below _ _ _ (by omega) hB.out⟩
theorem stepp_impl (c : Sg) (v : Int) (w : World) (hP : PBit w) : Calls Tryd.prog 17 #[sgV c, .int .i64 v] w fun e w' => e = .returned (ansS (step2 c v)) ∧ Below w.heap.size w w' := by
  cases hc : okS c
  · have e : step2 c v = (zeS, 1) := by unfold step2; rw [hc]; rfl
    rw [e]
    exact stepp_impl_bad1 c v w hP (by unfold faultS; rw [hc]; rfl)
  · cases hr : inB v 0 1000
    · have e : step2 c v = (zeS, 4) := by unfold step2; rw [hc, hr]; rfl
      rw [e]
      exact stepp_impl_bad4 c v w hP (by unfold faultS; rw [hc, hr]; rfl)
    · obtain ⟨n, rfl, hn⟩ := milS hr
      have e : step2 c (n : Int) = (c.steps n, 0) := by unfold step2; rw [hc, hr]; simp only [if_true, Int.toNat_natCast]
      rw [e]
      exact stepp_impl_ok c n w hP hc (by unfold faultS; rw [hc, hr]; rfl) hn
end Go.Proofs.YtjdgfbaioafjcaaDoor
