/- What the program answers when an interrupt comes. -/
import Derived.Test.YtiidkhfigifmjaaU18
import Derived.Test.YtiidkhfigifmjaaRnu
import Derived.Test.YtiidkhfigifmjaaU32
import Derived.Test.YtiidkhfigifmjaaBdu
import Derived.Deep.RegionWith
import Derived.BigRegion
namespace Go.Proofs.Ytiidkhfigifmjaa
open Go.ChangeShapes Go.WideShapes Go.ChangeAt Go.RowKit Go.Shelf
set_option linter.unusedVariables false
set_option linter.unusedSimpArgs false

theorem lay_ans {w w1 w3 : World} {x : Mx} {u cv : Value} {b g : Nat} (hb : Below w.heap.size w w1) (q2 : Blk w1 b zC) (q3 : Blk w1 g zM) (hbg : b ≠ g) (lb : w.heap.size ≤ b) (lg : w.heap.size ≤ g) (hA : Ans w1 w3 x u cv) :
    Blk w3 b zC ∧ Blk w3 g zM ∧ ∀ vr' vm', u = memV vr' vm' x.m.page x.m.screen x.m.locked → ∀ WF, sets (sets w3 b 0 (cpuL x.c)) g 0 (meL vr' vm' x.m) = WF →
      (∀ i, WF.cell? ⟨b, i, none⟩ = (cpA x.c)[i]?) ∧ (∀ i, WF.cell? ⟨g, i, none⟩ = (#[vr', vm', .int .i64 x.m.page, .int .i64 x.m.screen, .bool x.m.locked] : Array Value)[i]?) ∧ Ans w WF x u cv := by
  have l2 := q2.lt
  have l3 := q3.lt
  have k2 := q2.below hA.bel l2
  have k3 := q3.below hA.bel l3
  refine ⟨k2, k3, fun vr' vm' e WF hWF => ?_⟩
  obtain ⟨F1, F2, F3, F4, F5⟩ := fin_blk k2 k3 hbg (new_trans hb hA.bel) lb lg (cpuL x.c) (meL vr' vm' x.m)
  rw [setsC] at F1
  rw [setsM] at F2
  rw [hWF] at F1 F2 F3 F4 F5
  exact ⟨F1, F2, hA.laid hb.size (fun y hy => F3 y (by omega) (by omega)) (by omega) F5⟩
theorem Ans.form {w W : World} {x : Mx} {u cv : Value} (h : Ans w W x u cv) : ∃ g1 h1 g2 h2, u = memV (.slice g1 x.m.rom.length h1) (.slice g2 x.m.ram.length h2) x.m.page x.m.screen x.m.locked := by
  obtain ⟨⟨lo, hi, h1, _⟩, _⟩ := h
  obtain ⟨g1, c1, g2, c2, e, _⟩ := h1.reads.form
  exact ⟨g1, c1, g2, c2, e⟩
theorem cf_nil (c : Cu) (M : Mem) : cfM c M [] = if (okC c && okM M) = true then 0 else 1 := by
  unfold cfM faultM
  cases okC c <;> cases okM M <;> rfl
theorem intM_len (c : Cp) (M : Mem) : (intM c M).cy.length ≤ 1000 := by
  show ([_] ++ [_] : List (Nat × Nat × Nat)).length ≤ 1000
  simp
set_option maxRecDepth 100000 in
set_option maxHeartbeats 4000000 in
theorem int_impl_bad (c : Cu) (v : Value) (M : Mem) (w : World) (h : MemR w v M) (hf : Fit M) (hb0 : (okC c && okM M) = false) :
    Calls Try.prog 7 #[cuV c, v] w fun e w' => ∃ u cv, e = .returned (.tuple #[cpV (mx0).c, u, cv, .int .i64 (1)]) ∧ Ans w w' (mx0) u cv := by
  obtain ⟨a1, p1, a2, p2, rfl, _, _⟩ := h.form
  have hask : Hid (∀ W', Below w.heap.size w W' → Calls Try.prog 25 #[cuV c, memV (.slice a1 M.rom.length p1) (.slice a2 M.ram.length p2) M.page M.screen M.locked, .slice none 0 0] W' fun e w' => e = .returned (.int .i64 (cfM c M [])) ∧ Below W'.heap.size W' w') := fun W' hb => cfault_impl c _ M none 0 [] W' (h.below hb) hf (RowR.nil W') (by simp)
  rw [cf_nil] at hask
  rw [hb0, if_neg (by simp)] at hask
  clear h hf hb0
  go_enter Try.func7, Try.ntmps7
  go_upto_region 1 with fail
  obtain ⟨V, hV⟩ : ∃ V, ((((w.alloc (.cells (cuA c) 25)).alloc (.cells #[.slice a1 M.rom.length p1, .slice a2 M.ram.length p2, .int .i64 M.page, .int .i64 M.screen, .bool M.locked] 30)).alloc (.cells zC 25)).alloc (.cells zM 30)) = V := ⟨_, rfl⟩
  rw [hV]
  have hs := hid (four_four hV)
  have x0 := hs.out.1.cell
  have x1 := hs.out.2.1.cell
  clear hV
  go_wp2_with fail
  refine (hask.out _ hs.out.2.2.2.2.1).mono ?_
  rintro e w1 ⟨rfl, hb⟩
  have q2 := hs.out.2.2.1.below hb hs.out.2.2.1.lt
  have q3 := hs.out.2.2.2.1.below hb hs.out.2.2.2.1.lt
  have hb1 := new_trans hs.out.2.2.2.2.1 hb
  have hz1 := hb1.size
  obtain ⟨WF, hWF⟩ : ∃ WF, sets (sets w1 (w.heap.size + 1 + 1) 0 zCL) (w.heap.size + 1 + 1 + 1) 0 zML = WF := ⟨_, rfl⟩
  have F := fin_blk q2 q3 (by omega) hb1 (by omega) (by omega) zCL zML
  have l2 := q2.lt
  have l3 := q3.lt
  rw [zset1, zset2, hWF] at F
  have y2 := q2.cell
  have f2 := q2.frozen
  have y3 := q3.cell
  have f3 := q3.frozen
  simp only [sets, zCL, zML, Nat.zero_add, Nat.reduceAdd] at hWF
  replace F := hid F
  replace hWF := hid hWF
  clear hb hs x0 x1 q2 q3 hb1
  go_wp2
  rw [hWF.out]
  obtain ⟨F1, F2, F3, F4, F5⟩ := F.out
  clear F hWF y2 f2 y3 f3
  refine bodyPost_ret (v := .tuple #[cpV mx0.c, memV (.slice none 0 0) (.slice none 0 0) 0 0 false, .slice none 0 0, .int .i64 1]) (by simp [results, Try.results7, go_sem, F1, F2, mx0, cp0]) rfl ⟨_, _, rfl, ?_⟩
  exact Ans.none cp0 F5
set_option maxRecDepth 100000 in
set_option maxHeartbeats 4000000 in
theorem int_impl_ok (c : Cu) (v : Value) (M : Mem) (w : World) (h : MemR w v M) (hf : Fit M) (hb0 : (okC c && okM M) = true) (hi : (!c.iff || c.ei) = false) :
    Calls Try.prog 7 #[cuV c, v] w fun e w' => ∃ u cv, e = .returned (.tuple #[cpV (intM c.cp M).c, u, cv, .int .i64 (0)]) ∧ Ans w w' (intM c.cp M) u cv := by
  obtain ⟨a1, p1, a2, p2, rfl, _, _⟩ := h.form
  have hask : Hid (∀ W', Below w.heap.size w W' → Calls Try.prog 25 #[cuV c, memV (.slice a1 M.rom.length p1) (.slice a2 M.ram.length p2) M.page M.screen M.locked, .slice none 0 0] W' fun e w' => e = .returned (.int .i64 (cfM c M [])) ∧ Below W'.heap.size W' w') := fun W' hb => cfault_impl c _ M none 0 [] W' (h.below hb) hf (RowR.nil W') (by simp)
  rw [cf_nil] at hask
  rw [hb0, if_pos rfl] at hask
  have hk : okC c = true ∧ okM M = true := by simpa using hb0
  obtain ⟨hce, hco⟩ := okC_cp hk.1
  have t1 : c.cp.iff = true := by
    show c.iff = true
    cases h1 : c.iff
    · rw [h1] at hi; simp at hi
    · rfl
  have t2 : c.cp.ei = false := by
    show c.ei = false
    cases h1 : c.ei
    · rfl
    · rw [h1] at hi; simp at hi
  have hnew : Hid (∀ W', Below w.heap.size w W' → Calls _ _ _ W' _) := fun W' hb => newp_impl c.cp _ M 0 W' (h.below hb) hk.2 hf
  have hok : okM (intM c.cp M).m = true := poke_ok hk.2 (in_yes (by omega) (by have := hco.2.2.2.2.2.2.2.2.2; omega))
  have hans : Hid (∀ w0 W' lo hi B r s G Q Y, Brd W' lo hi B r s G Q M → Blk W' Y (proT c.cp B 0 .nilFunc) → ¬ brdB lo hi B Q Y → w0.heap.size ≤ Y → w0.heap.size ≤ lo → Below w0.heap.size w0 W' → Calls Try.prog 28 #[.pointer (some ⟨Y, 0, none⟩), .func (.func 29) #[.pointer (some ⟨Y, 0, none⟩)] #[]] W' fun e W'' => ∃ u cv, e = .returned (.tuple #[cpV (intM c.cp M).c, u, cv, .int .i64 0]) ∧ Ans w0 W'' (intM c.cp M) u cv) := fun w0 W' lo hi B r s G Q Y hB hY hYb hYf hlo hbel =>
    answer_impl w0 29 Y B lo hi r s 0 G Q c.cp M (intM c.cp M) W' hk.2 hok (intM_len _ _) (enters_of Try.func29 (by kernel_rfl) rfl) hY hB hYb hYf hlo hbel (fun p z hT e1 e2 e3 W2 hA => by
      have := pinter p hT z W2 c.cp M hA hk.2 hco.2.2.2.2.2.2.2.2.2 hco.2.2.2.2.2.2.2.2.1
      rw [e2] at this
      exact this)
  rw [hce]
  rw [hce] at hask
  clear h hf hb0 hi hce hk hco
  replace t1 := hid t1
  replace t2 := hid t2
  generalize intM c.cp M = X at *
  generalize c.cp = d at *
  go_enter Try.func7, Try.ntmps7
  go_upto_region 1 with fail
  obtain ⟨V, hV⟩ : ∃ V, ((((w.alloc (.cells (cpA d) 25)).alloc (.cells #[.slice a1 M.rom.length p1, .slice a2 M.ram.length p2, .int .i64 M.page, .int .i64 M.screen, .bool M.locked] 30)).alloc (.cells zC 25)).alloc (.cells zM 30)) = V := ⟨_, rfl⟩
  rw [hV]
  have hs := hid (four_four hV)
  have x0 := hs.out.1.cell
  have x1 := hs.out.2.1.cell
  clear hV
  go_wp2_with fail
  refine (hask.out _ hs.out.2.2.2.2.1).mono ?_
  rintro e w1 ⟨rfl, hb⟩
  have q0 := hid (hs.out.1.below hb hs.out.1.lt)
  have q1 := hid (hs.out.2.1.below hb hs.out.2.1.lt)
  have q2 := hid (hs.out.2.2.1.below hb hs.out.2.2.1.lt)
  have q3 := hid (hs.out.2.2.2.1.below hb hs.out.2.2.2.1.lt)
  have hb1 := hid (new_trans hs.out.2.2.2.2.1 hb)
  clear hb hs hask x0 x1
  have x0 := q0.out.cell
  have x1 := q1.out.cell
  have t3 := t1.out
  have t4 := t2.out
  go_upto_region 6 with fail
  clear t3 t4
  go_wp2_with fail
  refine (hnew.out _ hb1.out).mono ?_
  rintro e w2 ⟨lo, hi, B, r, s, G, Q, Y, rfl, hB, hY, hYb, hYf, hlo, hb2⟩
  have hcall := hid (hans.out w1 w2 lo hi B r s G Q Y hB hY hYb hYf hlo hb2)
  clear hB hY hYb hYf hlo hb2 hans hnew x0 x1 q0 q1
  go_wp2_with fail
  refine hcall.out.mono ?_
  rintro e w3 ⟨u, cv, rfl, hA⟩
  have hE := lay_ans hb1.out q2.out q3.out (by omega) (by omega) (by omega) hA
  obtain ⟨g1, h1, g2, h2, rfl⟩ := hA.form
  obtain ⟨k2, k3, hF⟩ := hE
  obtain ⟨WF, hWF⟩ : ∃ WF, sets (sets w3 (w.heap.size + 1 + 1) 0 (cpuL X.c)) (w.heap.size + 1 + 1 + 1) 0 (meL (.slice g1 X.m.rom.length h1) (.slice g2 X.m.ram.length h2) X.m) = WF := ⟨_, rfl⟩
  obtain ⟨F1, F2, F3⟩ := hF _ _ rfl WF hWF
  simp only [sets, cpuL, meL, Nat.zero_add, Nat.reduceAdd] at hWF
  have y2 := k2.cell
  have f2 := k2.frozen
  have y3 := k3.cell
  have f3 := k3.frozen
  have l2 := k2.lt
  have l3 := k3.lt
  replace F3 := hid F3
  replace hWF := hid hWF
  clear hA hF k2 k3 hcall
  go_wp2
  rw [hWF.out]
  refine bodyPost_ret (v := .tuple #[cpV X.c, memV (.slice g1 X.m.rom.length h1) (.slice g2 X.m.ram.length h2) X.m.page X.m.screen X.m.locked, cv, .int .i64 0]) (by simp [results, Try.results7, go_sem, F1, F2]) rfl ⟨_, _, rfl, F3.out⟩
set_option maxRecDepth 100000 in
set_option maxHeartbeats 4000000 in
theorem int_impl_h1 (c : Cu) (v : Value) (M : Mem) (w : World) (h : MemR w v M) (hf : Fit M) (hb0 : (okC c && okM M) = true) (hi : c.iff = false) :
    Calls Try.prog 7 #[cuV c, v] w fun e w' => ∃ u cv, e = .returned (.tuple #[cpV ((⟨c.cp, M, []⟩ : Mx)).c, u, cv, .int .i64 (19)]) ∧ Ans w w' ((⟨c.cp, M, []⟩ : Mx)) u cv := by
  obtain ⟨a1, p1, a2, p2, rfl, _, _⟩ := h.form
  have hask : Hid (∀ W', Below w.heap.size w W' → Calls Try.prog 25 #[cuV c, memV (.slice a1 M.rom.length p1) (.slice a2 M.ram.length p2) M.page M.screen M.locked, .slice none 0 0] W' fun e w' => e = .returned (.int .i64 (cfM c M [])) ∧ Below W'.heap.size W' w') := fun W' hb => cfault_impl c _ M none 0 [] W' (h.below hb) hf (RowR.nil W') (by simp)
  rw [cf_nil] at hask
  rw [hb0, if_pos rfl] at hask
  have hk : okC c = true ∧ okM M = true := by simpa using hb0
  obtain ⟨hce, hco⟩ := okC_cp hk.1
  have hown : Hid (∀ W', Below w.heap.size w W' → Calls _ _ _ W' _) := fun W' hb => copy_impl _ M W' (h.below hb) hf
  rw [hce]
  rw [hce] at hask
  clear h hf hb0 hce hk hco
  have t3 : Hid (c.cp.iff = false) := hi
  generalize c.cp = d at *
  go_enter Try.func7, Try.ntmps7
  go_upto_region 1 with fail
  obtain ⟨V, hV⟩ : ∃ V, ((((w.alloc (.cells (cpA d) 25)).alloc (.cells #[.slice a1 M.rom.length p1, .slice a2 M.ram.length p2, .int .i64 M.page, .int .i64 M.screen, .bool M.locked] 30)).alloc (.cells zC 25)).alloc (.cells zM 30)) = V := ⟨_, rfl⟩
  rw [hV]
  have hs := hid (four_four hV)
  have x0 := hs.out.1.cell
  have x1 := hs.out.2.1.cell
  clear hV
  go_wp2_with fail
  refine (hask.out _ hs.out.2.2.2.2.1).mono ?_
  rintro e w1 ⟨rfl, hb⟩
  have q0 := hid (hs.out.1.below hb hs.out.1.lt)
  have q1 := hid (hs.out.2.1.below hb hs.out.2.1.lt)
  have q2 := hid (hs.out.2.2.1.below hb hs.out.2.2.1.lt)
  have q3 := hid (hs.out.2.2.2.1.below hb hs.out.2.2.2.1.lt)
  have hb1 := hid (new_trans hs.out.2.2.2.2.1 hb)
  clear hb hs hask x0 x1
  have x0 := q0.out.cell
  have x1 := q1.out.cell
  have hL := hid (lay_own (c := d) (M := M) hb1.out q2.out q3.out (by omega) (by omega) (by omega))
  have l0 := q0.out.lt
  have hbW : Hid (∀ W', Below w1.heap.size w1 W' → Below w.heap.size w W') := fun W' hb => new_trans hb1.out hb
  have hD : Hid (Below w1.heap.size w1 w1.drew) := (Below.refl _ _).drew
  clear q1 q2 q3 hb1
  have t5 := t3.out
  go_upto_region 5 with fail
  clear t5
  (try clear t6)
  go_region_with (go_at_call 26; refine (hown.out _ (hbW.out _ hD.out)).mono ?_; rintro e w3 ⟨r, s, G, rfl, hm3, hb3⟩; have hE := hid (hL.out _ hD.out w3 _ hm3.memO hb3); have y0 := (q0.out.below (new_trans hD.out hb3) l0).cell; obtain ⟨k2, k3, hF⟩ := hE.out; have y2 := k2.cell; have f2 := k2.frozen; have l2 := k2.lt; have y3 := k3.cell; have f3 := k3.frozen; have l3 := k3.lt; replace hF := hid hF; clear hE k2 k3 hm3 hb3)
  all_goals
    obtain ⟨WF, hWF⟩ : ∃ WF, sets (sets w3 (w.heap.size + 1 + 1) 0 (cpuL d)) (w.heap.size + 1 + 1 + 1) 0 (meL (.slice (some ⟨r, 0, none⟩) M.rom.length M.rom.length) (.slice (some ⟨s, 0, none⟩) M.ram.length M.ram.length) M) = WF := ⟨_, rfl⟩
    obtain ⟨F1, F2, _, _, _, _, _, F8⟩ := hF.out _ _ rfl _ hWF
    simp only [sets, cpuL, meL, Nat.zero_add, Nat.reduceAdd] at hWF
    replace F8 := hid F8
    replace hWF := hid hWF
    clear hF hL
    (try go_wp2)
    rw [hWF.out]
    clear hWF y2 f2 l2 y3 f3 l3 x0 x1 y0
    exact bodyPost_ret (v := .tuple #[cpV d, memV (.slice (some ⟨r, 0, none⟩) M.rom.length M.rom.length) (.slice (some ⟨s, 0, none⟩) M.ram.length M.ram.length) M.page M.screen M.locked, .slice none 0 0, .int .i64 19]) (by simp [results, Try.results7, go_sem, F1, F2]) rfl ⟨_, _, rfl, F8.out⟩
set_option maxRecDepth 100000 in
set_option maxHeartbeats 4000000 in
theorem int_impl_h2 (c : Cu) (v : Value) (M : Mem) (w : World) (h : MemR w v M) (hf : Fit M) (hb0 : (okC c && okM M) = true) (hi : c.iff = true) (hj : c.ei = true) :
    Calls Try.prog 7 #[cuV c, v] w fun e w' => ∃ u cv, e = .returned (.tuple #[cpV ((⟨c.cp, M, []⟩ : Mx)).c, u, cv, .int .i64 (19)]) ∧ Ans w w' ((⟨c.cp, M, []⟩ : Mx)) u cv := by
  obtain ⟨a1, p1, a2, p2, rfl, _, _⟩ := h.form
  have hask : Hid (∀ W', Below w.heap.size w W' → Calls Try.prog 25 #[cuV c, memV (.slice a1 M.rom.length p1) (.slice a2 M.ram.length p2) M.page M.screen M.locked, .slice none 0 0] W' fun e w' => e = .returned (.int .i64 (cfM c M [])) ∧ Below W'.heap.size W' w') := fun W' hb => cfault_impl c _ M none 0 [] W' (h.below hb) hf (RowR.nil W') (by simp)
  rw [cf_nil] at hask
  rw [hb0, if_pos rfl] at hask
  have hk : okC c = true ∧ okM M = true := by simpa using hb0
  obtain ⟨hce, hco⟩ := okC_cp hk.1
  have hown : Hid (∀ W', Below w.heap.size w W' → Calls _ _ _ W' _) := fun W' hb => copy_impl _ M W' (h.below hb) hf
  rw [hce]
  rw [hce] at hask
  clear h hf hb0 hce hk hco
  have t3 : Hid (c.cp.iff = true) := hi
  have t4 : Hid (c.cp.ei = true) := hj
  generalize c.cp = d at *
  go_enter Try.func7, Try.ntmps7
  go_upto_region 1 with fail
  obtain ⟨V, hV⟩ : ∃ V, ((((w.alloc (.cells (cpA d) 25)).alloc (.cells #[.slice a1 M.rom.length p1, .slice a2 M.ram.length p2, .int .i64 M.page, .int .i64 M.screen, .bool M.locked] 30)).alloc (.cells zC 25)).alloc (.cells zM 30)) = V := ⟨_, rfl⟩
  rw [hV]
  have hs := hid (four_four hV)
  have x0 := hs.out.1.cell
  have x1 := hs.out.2.1.cell
  clear hV
  go_wp2_with fail
  refine (hask.out _ hs.out.2.2.2.2.1).mono ?_
  rintro e w1 ⟨rfl, hb⟩
  have q0 := hid (hs.out.1.below hb hs.out.1.lt)
  have q1 := hid (hs.out.2.1.below hb hs.out.2.1.lt)
  have q2 := hid (hs.out.2.2.1.below hb hs.out.2.2.1.lt)
  have q3 := hid (hs.out.2.2.2.1.below hb hs.out.2.2.2.1.lt)
  have hb1 := hid (new_trans hs.out.2.2.2.2.1 hb)
  clear hb hs hask x0 x1
  have x0 := q0.out.cell
  have x1 := q1.out.cell
  have hL := hid (lay_own (c := d) (M := M) hb1.out q2.out q3.out (by omega) (by omega) (by omega))
  have l0 := q0.out.lt
  have hbW : Hid (∀ W', Below w1.heap.size w1 W' → Below w.heap.size w W') := fun W' hb => new_trans hb1.out hb
  have hD : Hid (Below w1.heap.size w1 w1.drew) := (Below.refl _ _).drew
  clear q1 q2 q3 hb1
  have t5 := t3.out
  have t6 := t4.out
  go_upto_region 5 with fail
  clear t5
  (try clear t6)
  go_region_with (go_at_call 26; refine (hown.out _ (hbW.out _ hD.out)).mono ?_; rintro e w3 ⟨r, s, G, rfl, hm3, hb3⟩; have hE := hid (hL.out _ hD.out w3 _ hm3.memO hb3); have y0 := (q0.out.below (new_trans hD.out hb3) l0).cell; obtain ⟨k2, k3, hF⟩ := hE.out; have y2 := k2.cell; have f2 := k2.frozen; have l2 := k2.lt; have y3 := k3.cell; have f3 := k3.frozen; have l3 := k3.lt; replace hF := hid hF; clear hE k2 k3 hm3 hb3)
  all_goals
    obtain ⟨WF, hWF⟩ : ∃ WF, sets (sets w3 (w.heap.size + 1 + 1) 0 (cpuL d)) (w.heap.size + 1 + 1 + 1) 0 (meL (.slice (some ⟨r, 0, none⟩) M.rom.length M.rom.length) (.slice (some ⟨s, 0, none⟩) M.ram.length M.ram.length) M) = WF := ⟨_, rfl⟩
    obtain ⟨F1, F2, _, _, _, _, _, F8⟩ := hF.out _ _ rfl _ hWF
    simp only [sets, cpuL, meL, Nat.zero_add, Nat.reduceAdd] at hWF
    replace F8 := hid F8
    replace hWF := hid hWF
    clear hF hL
    (try go_wp2)
    rw [hWF.out]
    clear hWF y2 f2 l2 y3 f3 l3 x0 x1 y0
    exact bodyPost_ret (v := .tuple #[cpV d, memV (.slice (some ⟨r, 0, none⟩) M.rom.length M.rom.length) (.slice (some ⟨s, 0, none⟩) M.ram.length M.ram.length) M.page M.screen M.locked, .slice none 0 0, .int .i64 19]) (by simp [results, Try.results7, go_sem, F1, F2]) rfl ⟨_, _, rfl, F8.out⟩
theorem int_impl (c : Cu) (v : Value) (M : Mem) (w : World) (h : MemR w v M) (hf : Fit M) :
    Calls Try.prog 7 #[cuV c, v] w fun e w' => ∃ u cv, e = .returned (.tuple #[cpV (intX c M).c, u, cv, .int .i64 (intC c M)]) ∧ Ans w w' (intX c M) u cv := by
  unfold intX intC
  cases hb0 : okC c && okM M
  · exact int_impl_bad c v M w h hf hb0
  · cases hi : c.iff
    · exact int_impl_h1 c v M w h hf hb0 hi
    · cases hj : c.ei
      · exact int_impl_ok c v M w h hf hb0 (by rw [hi, hj]; rfl)
      · exact int_impl_h2 c v M w h hf hb0 hi hj
end Go.Proofs.Ytiidkhfigifmjaa
