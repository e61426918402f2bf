/- What the specification answers when an interrupt comes. -/
import Derived.Test.YtiidkhfigifmjaaU18
import Derived.Test.YtiidkhfigifmjaaJku
import Derived.Test.YtiidkhfigifmjaaHvu
import Derived.Deep.RegionWith
import Derived.BigRegion
namespace Go.Proofs.Ytiidkhfigifmjaa
open Go.ChangeShapes Go.WideShapes Go.ChangeAt Go.RowKit
set_option linter.unusedVariables false
set_option linter.unusedSimpArgs false

set_option maxRecDepth 100000 in
set_option maxHeartbeats 4000000 in
theorem int_spec_bad (c : Cu) (v : Value) (M : Mem) (w : World) (h : MemR w v M) (hf : Fit M) (hb0 : (okC c && okM M) = false) :
    Calls Try.prog 8 #[cuV c, v] w fun e w' => ∃ u cv, e = .returned (.tuple #[cpV (mx0).c, u, cv, .int .i64 (1)]) ∧ Ans w w' (mx0) u cv := by
  obtain ⟨a1, p1, a2, p2, rfl, _, _⟩ := h.form
  have hask : Hid (∀ W', Below w.heap.size w W' → Calls _ _ _ W' _) := fun W' hb => cask_spec c _ M W' (h.below hb) hf
  rw [hb0] at hask
  clear h hf hb0
  go_enter Try.func8, Try.ntmps8
  go_upto_region 1 with fail
  obtain ⟨V, hV⟩ : ∃ V, ((((w.alloc (.cells (cuA c) 25)).alloc (.cells #[.slice a1 M.rom.length p1, .slice a2 M.ram.length p2, .int .i64 M.page, .int .i64 M.screen, .bool M.locked] 30)).alloc (.cells zC 25)).alloc (.cells zM 30)) = V := ⟨_, rfl⟩
  rw [hV]
  have hs := hid (four_four hV)
  have x0 := hs.out.1.cell
  have x1 := hs.out.2.1.cell
  clear hV
  go_wp2_with fail
  refine (hask.out _ hs.out.2.2.2.2.1).mono ?_
  rintro e w1 ⟨rfl, hb⟩
  have q2 := hs.out.2.2.1.below hb hs.out.2.2.1.lt
  have q3 := hs.out.2.2.2.1.below hb hs.out.2.2.2.1.lt
  have hb1 := new_trans hs.out.2.2.2.2.1 hb
  have hz1 := hb1.size
  obtain ⟨WF, hWF⟩ : ∃ WF, sets (sets w1 (w.heap.size + 1 + 1) 0 zCL) (w.heap.size + 1 + 1 + 1) 0 zML = WF := ⟨_, rfl⟩
  have F := fin_blk q2 q3 (by omega) hb1 (by omega) (by omega) zCL zML
  have l2 := q2.lt
  have l3 := q3.lt
  rw [zset1, zset2, hWF] at F
  have y2 := q2.cell
  have f2 := q2.frozen
  have y3 := q3.cell
  have f3 := q3.frozen
  simp only [sets, zCL, zML, Nat.zero_add, Nat.reduceAdd] at hWF
  replace F := hid F
  replace hWF := hid hWF
  clear hb hs x0 x1 q2 q3 hb1
  go_wp2
  rw [hWF.out]
  obtain ⟨F1, F2, F3, F4, F5⟩ := F.out
  clear F hWF y2 f2 y3 f3
  rw [← F4] at l2 l3 ⊢
  refine bodyPost_ret (v := .tuple #[cpV mx0.c, memV (.slice none 0 0) (.slice none 0 0) 0 0 false, .slice (some ⟨WF.heap.size, 0, none⟩) 0 0, .int .i64 1]) (by simp [results, Try.results8, go_sem, F1, F2, l2, l3, mx0, cp0]) rfl ⟨_, _, rfl, ?_⟩
  exact Ans.empty cp0 (F5.alloc F5.size _) (heap_alloc_new _ _) F5.size
set_option maxRecDepth 100000 in
set_option maxHeartbeats 4000000 in
theorem int_spec_ok (c : Cu) (v : Value) (M : Mem) (w : World) (h : MemR w v M) (hf : Fit M) (hb0 : (okC c && okM M) = true) (hi : (!c.iff || c.ei) = false) :
    Calls Try.prog 8 #[cuV c, v] w fun e w' => ∃ u cv, e = .returned (.tuple #[cpV (intM c.cp M).c, u, cv, .int .i64 (0)]) ∧ Ans w w' (intM c.cp M) u cv := by
  obtain ⟨a1, p1, a2, p2, rfl, _, _⟩ := h.form
  have hask : Hid (∀ W', Below w.heap.size w W' → Calls _ _ _ W' _) := fun W' hb => cask_spec c _ M W' (h.below hb) hf
  rw [hb0] at hask
  have hk : okC c = true ∧ okM M = true := by simpa using hb0
  obtain ⟨hce, hco⟩ := okC_cp hk.1
  have hcu : cuA c = cpA c.cp := by
    have := hce
    simp only [cuV, cpV, Value.agg.injEq] at this
    exact this
  have t1 : c.cp.iff = true := by
    show c.iff = true
    cases h1 : c.iff
    · rw [h1] at hi; simp at hi
    · rfl
  have t2 : c.cp.ei = false := by
    show c.ei = false
    cases h1 : c.ei
    · rfl
    · rw [h1] at hi; simp at hi
  have hin : Hid (∀ W', Below w.heap.size w W' → Calls _ _ _ W' _) := fun W' hb => cint_spec c.cp _ M W' (h.below hb) hk.2 hco
  have hok : okM (intM c.cp M).m = true := poke_ok hk.2 (in_yes (by omega) (by have := hco.2.2.2.2.2.2.2.2.2; omega))
  rw [hce]
  rw [hce] at hask
  clear h hf hb0 hi hce hcu hk hco
  replace t1 := hid t1
  replace t2 := hid t2
  generalize intM c.cp M = X at *
  generalize c.cp = d at *
  have hown : Hid (∀ v W', MemR W' v X.m → Calls _ _ _ W' _) := fun v W' hm => own_spec v X.m W' hm hok
  go_enter Try.func8, Try.ntmps8
  go_upto_region 1 with fail
  obtain ⟨V, hV⟩ : ∃ V, ((((w.alloc (.cells (cpA d) 25)).alloc (.cells #[.slice a1 M.rom.length p1, .slice a2 M.ram.length p2, .int .i64 M.page, .int .i64 M.screen, .bool M.locked] 30)).alloc (.cells zC 25)).alloc (.cells zM 30)) = V := ⟨_, rfl⟩
  rw [hV]
  have hs := hid (four_four hV)
  have x0 := hs.out.1.cell
  have x1 := hs.out.2.1.cell
  clear hV
  go_wp2_with fail
  refine (hask.out _ hs.out.2.2.2.2.1).mono ?_
  rintro e w1 ⟨rfl, hb⟩
  have q0 := hid (hs.out.1.below hb hs.out.1.lt)
  have q1 := hid (hs.out.2.1.below hb hs.out.2.1.lt)
  have q2 := hid (hs.out.2.2.1.below hb hs.out.2.2.1.lt)
  have q3 := hid (hs.out.2.2.2.1.below hb hs.out.2.2.2.1.lt)
  have hb1 := hid (new_trans hs.out.2.2.2.2.1 hb)
  have x0 := q0.out.cell
  have x1 := q1.out.cell
  clear hb hs hask
  have t3 := t1.out
  have t4 := t2.out
  go_upto_region 5 with fail
  clear t3 t4
  go_wp2_with fail
  refine (hin.out _ hb1.out).mono ?_
  rintro e w2 ⟨vr, vm, cv, rfl, hO⟩
  obtain ⟨e1, p3, e2, p4, rfl, rfl⟩ := hO.form
  have hs2 := two_newC w2 (cpA X.c) #[.slice e1 X.m.rom.length p3, .slice e2 X.m.ram.length p4, .int .i64 X.m.page, .int .i64 X.m.screen, .bool X.m.locked] 25 30
  have hM := (hO.mem.mono (veil_le _ _)).below hs2.2.2
  have hL := lay_two hb1.out q2.out q3.out hO (by omega) (by omega) (by omega)
  replace hs2 := hid hs2
  replace hM := hid hM
  replace hL := hid hL
  clear q0 q1 q2 q3 hb1 x0 x1 hin hO
  go_upto_region 6 with fail
  obtain ⟨V2, hV2⟩ : ∃ V2, (w2.alloc (.cells (cpA X.c) 25)).alloc (.cells #[.slice e1 X.m.rom.length p3, .slice e2 X.m.ram.length p4, .int .i64 X.m.page, .int .i64 X.m.screen, .bool X.m.locked] 30) = V2 := ⟨_, rfl⟩
  rw [hV2] at hs2 hM ⊢
  clear hV2
  have x0 := hs2.out.1.cell
  have x1 := hs2.out.2.1.cell
  have z0 := hid hs2.out.1.drew
  have zB := hid hs2.out.2.2.drew
  have hMd : Hid (MemR V2.drew _ X.m) := hM.out
  clear hs2 hM
  go_region_with (go_at_call 31; refine (hown.out _ _ hMd.out).mono ?_; rintro e w3 ⟨u, rfl, hm3, hb3⟩; have hE := hid (hL.out _ zB.out w3 u hm3 hb3); have y0 := (z0.out.below hb3 z0.out.lt).cell; obtain ⟨g1, h1, g2, h2, rfl, _, _⟩ := hm3.reads.form; obtain ⟨k2, k3, hF⟩ := hE.out; have y2 := k2.cell; have f2 := k2.frozen; have l2 := k2.lt; have y3 := k3.cell; have f3 := k3.frozen; have l3 := k3.lt; replace hF := hid hF; clear hE k2 k3 hm3 hb3)
  all_goals
    obtain ⟨F1, F2, F3⟩ := hF.out _ _ rfl
    obtain ⟨WF, hWF⟩ : ∃ WF, sets (sets w3 (w.heap.size + 1 + 1) 0 (cpuL X.c)) (w.heap.size + 1 + 1 + 1) 0 (meL (.slice g1 X.m.rom.length h1) (.slice g2 X.m.ram.length h2) X.m) = WF := ⟨_, rfl⟩
    rw [hWF] at F1 F2 F3
    simp only [sets, cpuL, meL, Nat.zero_add, Nat.reduceAdd] at hWF
    rw [hWF]
    replace F3 := hid F3
    clear hWF y2 f2 l2 y3 f3 l3 x0 x1 y0 hF hL z0 zB hMd
    go_wp2
    refine bodyPost_ret (v := .tuple #[cpV X.c, memV (.slice g1 X.m.rom.length h1) (.slice g2 X.m.ram.length h2) X.m.page X.m.screen X.m.locked, cv, .int .i64 0]) (by simp [results, Try.results8, go_sem, F1, F2]) rfl ⟨_, _, rfl, F3.out⟩
set_option maxRecDepth 100000 in
set_option maxHeartbeats 4000000 in
theorem int_spec_h1 (c : Cu) (v : Value) (M : Mem) (w : World) (h : MemR w v M) (hf : Fit M) (hb0 : (okC c && okM M) = true) (hi : c.iff = false) :
    Calls Try.prog 8 #[cuV c, v] w fun e w' => ∃ u cv, e = .returned (.tuple #[cpV ((⟨c.cp, M, []⟩ : Mx)).c, u, cv, .int .i64 (19)]) ∧ Ans w w' ((⟨c.cp, M, []⟩ : Mx)) u cv := by
  obtain ⟨a1, p1, a2, p2, rfl, _, _⟩ := h.form
  have hask : Hid (∀ W', Below w.heap.size w W' → Calls _ _ _ W' _) := fun W' hb => cask_spec c _ M W' (h.below hb) hf
  rw [hb0] at hask
  have hk : okC c = true ∧ okM M = true := by simpa using hb0
  obtain ⟨hce, hco⟩ := okC_cp hk.1
  have hcu : cuA c = cpA c.cp := by
    have := hce
    simp only [cuV, cpV, Value.agg.injEq] at this
    exact this
  have hown : Hid (∀ W', MemR W' (memV (.slice a1 M.rom.length p1) (.slice a2 M.ram.length p2) M.page M.screen M.locked) M → Calls _ _ _ W' _) := fun W' hm => own_spec _ M W' hm hk.2
  have hmr : Hid (∀ W', Below w.heap.size w W' → MemR W' (memV (.slice a1 M.rom.length p1) (.slice a2 M.ram.length p2) M.page M.screen M.locked) M) := fun W' hb => h.below hb
  rw [hce]
  rw [hce] at hask
  clear h hf hb0 hce hcu hk hco
  have t3 : Hid (c.cp.iff = false) := hi
  generalize c.cp = d at *
  go_enter Try.func8, Try.ntmps8
  go_upto_region 1 with fail
  obtain ⟨V, hV⟩ : ∃ V, ((((w.alloc (.cells (cpA d) 25)).alloc (.cells #[.slice a1 M.rom.length p1, .slice a2 M.ram.length p2, .int .i64 M.page, .int .i64 M.screen, .bool M.locked] 30)).alloc (.cells zC 25)).alloc (.cells zM 30)) = V := ⟨_, rfl⟩
  rw [hV]
  have hs := hid (four_four hV)
  have x0 := hs.out.1.cell
  have x1 := hs.out.2.1.cell
  clear hV
  go_wp2_with fail
  refine (hask.out _ hs.out.2.2.2.2.1).mono ?_
  rintro e w1 ⟨rfl, hb⟩
  have q0 := hid (hs.out.1.below hb hs.out.1.lt)
  have q1 := hid (hs.out.2.1.below hb hs.out.2.1.lt)
  have q2 := hid (hs.out.2.2.1.below hb hs.out.2.2.1.lt)
  have q3 := hid (hs.out.2.2.2.1.below hb hs.out.2.2.2.1.lt)
  have hb1 := hid (new_trans hs.out.2.2.2.2.1 hb)
  clear hb hs hask x0 x1
  have x0 := q0.out.cell
  have x1 := q1.out.cell
  have t5 := t3.out
  go_upto_region 4 with fail
  clear t5
  (try clear t6)
  refine int_halt_ret _ _ _ _ _ _ _ _ _ _ _ _ _ w.heap.size d a1 a2 p1 p2 M w1 w _ _ q0.out q1.out q2.out q3.out hb1.out (Nat.le_refl _) (hmr.out _ hb1.out) hown.out ?_
  intro tm WF vr vm cv t4 t5 t6 t7 c4 c5 hA
  replace hA := hid hA
  clear x0 x1 q0 q1 q2 q3 hown hb1 hmr
  go_wp2
  refine bodyPost_ret (v := .tuple #[cpV d, memV vr vm M.page M.screen M.locked, cv, .int .i64 19]) (by simp [results, Try.results8, go_sem, t4, t5, t6, t7, c4, c5]) rfl ⟨_, _, rfl, hA.out⟩
set_option maxRecDepth 100000 in
set_option maxHeartbeats 4000000 in
theorem int_spec_h2 (c : Cu) (v : Value) (M : Mem) (w : World) (h : MemR w v M) (hf : Fit M) (hb0 : (okC c && okM M) = true) (hi : c.iff = true) (hj : c.ei = true) :
    Calls Try.prog 8 #[cuV c, v] w fun e w' => ∃ u cv, e = .returned (.tuple #[cpV ((⟨c.cp, M, []⟩ : Mx)).c, u, cv, .int .i64 (19)]) ∧ Ans w w' ((⟨c.cp, M, []⟩ : Mx)) u cv := by
  obtain ⟨a1, p1, a2, p2, rfl, _, _⟩ := h.form
  have hask : Hid (∀ W', Below w.heap.size w W' → Calls _ _ _ W' _) := fun W' hb => cask_spec c _ M W' (h.below hb) hf
  rw [hb0] at hask
  have hk : okC c = true ∧ okM M = true := by simpa using hb0
  obtain ⟨hce, hco⟩ := okC_cp hk.1
  have hcu : cuA c = cpA c.cp := by
    have := hce
    simp only [cuV, cpV, Value.agg.injEq] at this
    exact this
  have hown : Hid (∀ W', MemR W' (memV (.slice a1 M.rom.length p1) (.slice a2 M.ram.length p2) M.page M.screen M.locked) M → Calls _ _ _ W' _) := fun W' hm => own_spec _ M W' hm hk.2
  have hmr : Hid (∀ W', Below w.heap.size w W' → MemR W' (memV (.slice a1 M.rom.length p1) (.slice a2 M.ram.length p2) M.page M.screen M.locked) M) := fun W' hb => h.below hb
  rw [hce]
  rw [hce] at hask
  clear h hf hb0 hce hcu hk hco
  have t3 : Hid (c.cp.iff = true) := hi
  have t4 : Hid (c.cp.ei = true) := hj
  generalize c.cp = d at *
  go_enter Try.func8, Try.ntmps8
  go_upto_region 1 with fail
  obtain ⟨V, hV⟩ : ∃ V, ((((w.alloc (.cells (cpA d) 25)).alloc (.cells #[.slice a1 M.rom.length p1, .slice a2 M.ram.length p2, .int .i64 M.page, .int .i64 M.screen, .bool M.locked] 30)).alloc (.cells zC 25)).alloc (.cells zM 30)) = V := ⟨_, rfl⟩
  rw [hV]
  have hs := hid (four_four hV)
  have x0 := hs.out.1.cell
  have x1 := hs.out.2.1.cell
  clear hV
  go_wp2_with fail
  refine (hask.out _ hs.out.2.2.2.2.1).mono ?_
  rintro e w1 ⟨rfl, hb⟩
  have q0 := hid (hs.out.1.below hb hs.out.1.lt)
  have q1 := hid (hs.out.2.1.below hb hs.out.2.1.lt)
  have q2 := hid (hs.out.2.2.1.below hb hs.out.2.2.1.lt)
  have q3 := hid (hs.out.2.2.2.1.below hb hs.out.2.2.2.1.lt)
  have hb1 := hid (new_trans hs.out.2.2.2.2.1 hb)
  clear hb hs hask x0 x1
  have x0 := q0.out.cell
  have x1 := q1.out.cell
  have t5 := t3.out
  have t6 := t4.out
  go_upto_region 4 with fail
  clear t5
  (try clear t6)
  refine int_halt_ret _ _ _ _ _ _ _ _ _ _ _ _ _ w.heap.size d a1 a2 p1 p2 M w1 w _ _ q0.out q1.out q2.out q3.out hb1.out (Nat.le_refl _) (hmr.out _ hb1.out) hown.out ?_
  intro tm WF vr vm cv t4 t5 t6 t7 c4 c5 hA
  replace hA := hid hA
  clear x0 x1 q0 q1 q2 q3 hown hb1 hmr
  go_wp2
  refine bodyPost_ret (v := .tuple #[cpV d, memV vr vm M.page M.screen M.locked, cv, .int .i64 19]) (by simp [results, Try.results8, go_sem, t4, t5, t6, t7, c4, c5]) rfl ⟨_, _, rfl, hA.out⟩
theorem int_spec (c : Cu) (v : Value) (M : Mem) (w : World) (h : MemR w v M) (hf : Fit M) :
    Calls Try.prog 8 #[cuV c, v] w fun e w' => ∃ u cv, e = .returned (.tuple #[cpV (intX c M).c, u, cv, .int .i64 (intC c M)]) ∧ Ans w w' (intX c M) u cv := by
  unfold intX intC
  cases hb0 : okC c && okM M
  · exact int_spec_bad c v M w h hf hb0
  · cases hi : c.iff
    · exact int_spec_h1 c v M w h hf hb0 hi
    · cases hj : c.ei
      · exact int_spec_ok c v M w h hf hb0 (by rw [hi, hj]; rfl)
      · exact int_spec_h2 c v M w h hf hb0 hi hj
end Go.Proofs.Ytiidkhfigifmjaa
