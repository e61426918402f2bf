/- The program's step, whole. -/
import Derived.Test.YtgpmpfikeindfaaGreatDoorRjv
import Derived.Test.YtgpmpfikeindfaaGreatDoorV12
import Derived.Test.YtgpmpfikeindfaaGreatDoorV24
import Derived.Test.YtgpmpfikeindfaaGreatDoorRnv
import Derived.Deep.RegionWith
namespace Go.Proofs.YtgpmpfikeindfaaGreatDoor
open Go.ChangeShapes Go.WideShapes Go.ChangeAt Go.RowKit Go.Shelf
set_option linter.unusedVariables false
set_option linter.unusedSimpArgs false

theorem dec_bq {x y : Nat} (hx : x < 256) (hy : y < 256) : ∃ o a b m l : Nat, decO x = o ∧ decA x = a ∧ decB x y = b ∧ decN x y = m ∧ decL x = l ∧ o < 24 ∧ a < 8 ∧ b < 8 ∧ m < 256 ∧ l < 3 := by
  have h0 : 0 ≤ decO x ∧ decO x < 24 := by unfold decO; split <;> omega
  have h1 : 0 ≤ decA x ∧ decA x < 8 := by unfold decA; split; omega; split <;> omega
  have h2 : 0 ≤ decB x y ∧ decB x y < 8 := by unfold decB; split; omega; split <;> omega
  have h3 : 0 ≤ decN x y ∧ decN x y < 256 := by unfold decN; split; omega; split <;> omega
  have h4 : 0 ≤ decL x ∧ decL x < 3 := by
    unfold decL
    split
    · omega
    · unfold bitI; split <;> omega
  exact ⟨(decO x).toNat, (decA x).toNat, (decB x y).toNat, (decN x y).toNat, (decL x).toNat, by omega, by omega, by omega, by omega, by omega, by omega, by omega, by omega, by omega, by omega⟩
theorem whole_step (c : Cp) (M : Mem) : wholeM (stepP c M) (peekN M c.pc) = stepQ c M := rfl
set_option maxRecDepth 100000 in
set_option maxHeartbeats 2000000 in
theorem pstep (p : Par) (hT : Tells p) (z : Kps) (W : World) (c : Cp) (M : Mem) (h : At p z W ⟨c, M, []⟩) (hG : Flags p.w) (hD : Conds p.w) (hK : Kinds p.w) (hk : okM M = true) (hc : c.ok) (hn : p.n < 256) :
    Calls Tryz.prog 22 #[.pointer (some ⟨p.Y, 0, none⟩)] W fun e W' => e = .returned (.tuple #[]) ∧ At p z W' (stepM c M p.n) := by
  have hcp : c.pc < 256 := hc.2.2.2.2.2.2.2.2.2
  have hs1 : (c.pc + 1) % 256 < 256 := Nat.mod_lt _ (by omega)
  have b1 := (peek_byte hk hcp).2
  have b2 := (peek_byte hk hs1).2
  obtain ⟨o, a, b, m, l, ho, ha, hb, hm, hll, ho1, ha1, hb1, hm1, hl1⟩ := dec_bq b1 b2
  have hDv : dcdV (peekN M c.pc) (peekN M ((c.pc + 1) % 256)) = insV o a b m l := by unfold dcdV; rw [ho, ha, hb, hm, hll]
  have hS1 : c.halt = true → stepM c M p.n = stepP c M := fun hh => by unfold stepM; rw [if_pos hh]
  have hS2 : c.halt = false → stepM c M p.n = (stepQ c M).run p.n a b m o := fun hh => by
    unfold stepM
    rw [if_neg (by rw [hh]; decide), ho, ha, hb, hm, Int.toNat_natCast, Int.toNat_natCast, Int.toNat_natCast, Int.toNat_natCast]
  have x0 := h.cell
  have f0 := h.frozen
  have z0 := h.lt
  have h1 := hid (h.put 12 (.bool false) { c with ei := false } rfl)
  have hfe : Hid (∀ W1, At p z W1 ⟨{ c with ei := false }, M, []⟩ → Calls Tryz.prog 42 #[.pointer (some ⟨p.Y, 0, none⟩)] W1 fun e W' => e = .returned (.int .i64 (peekN M c.pc : Int)) ∧ At p z W' (stepP c M)) := fun W1 h2 => pfetch p hT z W1 ⟨{ c with ei := false }, M, []⟩ h2 (by simp) hk hcp
  have hwh : Hid (∀ W1, At p z W1 (stepP c M) → Calls Tryz.prog 43 #[.pointer (some ⟨p.Y, 0, none⟩), .int .i64 (peekN M c.pc : Int)] W1 fun e W' => e = .returned (insV o a b m l) ∧ At p z W' (stepQ c M)) := fun W1 h2 => by
    have q := pwhole (peekN M c.pc) p hT z W1 (stepP c M) h2 hK (by simp [stepP]) hk hcp b1
    rw [whole_step] at q
    have e : dcdV (peekN M c.pc) (peekN (stepP c M).m (((stepP c M).c.pc + 1) % 256)) = insV o a b m l := hDv
    rw [e] at q
    exact q
  have kl := stepQ_l c M
  have km := stepQ_m c M
  have kc := stepQ_c M hc
  obtain ⟨K, ix, en, hop⟩ := opK o ho1
  have hrun : Hid (∀ z2 W1, At p z2 W1 (stepQ c M) → Calls Tryz.prog K #[.pointer (some ⟨p.Y, 0, none⟩), insV o a b m l] W1 fun e W' => e = .returned (.tuple #[]) ∧ At p z2 W' ((stepQ c M).run p.n a b m o)) := fun z2 W1 h2 => hop a b m l p hT z2 W1 (stepQ c M) h2 hG hD (by omega) (by rw [km]; exact hk) kc ha1 hb1 hm1 hn
  have hP : (stepP c M).c.halt = c.halt := rfl
  clear hop ho ha hb hm hll hDv h kl km kc
  replace hT := hid hT
  replace hG := hid hG
  replace hD := hid hD
  replace hK := hid hK
  generalize hSM : stepM c M p.n = SM at *
  clear hSM
  generalize stepP c M = y1 at *
  generalize hQQ : stepQ c M = y2 at *
  clear hQQ
  generalize peekN M c.pc = first at *
  have hHH : y1.c.halt = c.halt := hP
  clear hP
  cases hh : c.halt
  · have hE := hid (hS2 hh)
    rw [hh] at hHH
    replace hh := hid hh
    clear hS1 hS2
    generalize y2.run p.n a b m o = y3 at *
    go_enter Tryz.func22, Tryz.ntmps22
    go_upto_region 1 with fail
    obtain ⟨w1, hw1⟩ : ∃ w1, W.setCell ⟨p.Y, 12, none⟩ (.bool false) = w1 := ⟨_, rfl⟩
    rw [hw1] at h1 ⊢
    clear hw1 x0 f0 z0
    go_wp2_with fail
    refine (hfe.out _ h1.out).mono ?_
    rintro e w2 ⟨rfl, h2⟩
    have x2 := h2.cell
    replace h2 := hid h2
    clear h1 hfe
    go_wp2_with fail
    refine (hwh.out _ h2.out).mono ?_
    rintro e w3 ⟨rfl, h3⟩
    clear h2 x2 hwh
    have h4 := h3.boxed #[.int .i64 (o : Int), .int .i64 (a : Int), .int .i64 (b : Int), .int .i64 (m : Int), .int .i64 (l : Int)] 64
    clear h3
    go_upto_region 4 with fail
    obtain ⟨X, hX⟩ : ∃ X, w3.heap.size = X := ⟨_, rfl⟩
    obtain ⟨w4, hw4⟩ : ∃ w4, w3.alloc (.cells #[.int .i64 (o : Int), .int .i64 (a : Int), .int .i64 (b : Int), .int .i64 (m : Int), .int .i64 (l : Int)] 64) = w4 := ⟨_, rfl⟩
    rw [hX, hw4] at h4
    rw [hX]
    rw [hw4]
    clear hX hw4
    have x4 := h4.kept.cell
    replace h4 := hid h4
    go_region_with (first | (go_at_call 44; refine (opers_impl _).mono ?_; rintro e w5 ⟨rfl, hb5⟩; have h5 := h4.out.drew.below hb5; have x5 := h5.kept.cell; replace h5 := hid h5; clear hb5 x4) | (refine (hrun.out _ _ h5.out).mono ?_; rintro e w6 ⟨rfl, h6⟩; replace h6 := hid h6))
    all_goals (try go_wp2)
    all_goals exact bodyPost_end (v := .tuple #[]) (by simp [results, Tryz.results22]) rfl ⟨rfl, by rw [hE.out]; exact h6.out.less⟩
  · have hE := hid (hS1 hh)
    rw [hh] at hHH
    replace hh := hid hh
    clear hS1 hS2
    go_enter Tryz.func22, Tryz.ntmps22
    go_upto_region 1 with fail
    obtain ⟨w1, hw1⟩ : ∃ w1, W.setCell ⟨p.Y, 12, none⟩ (.bool false) = w1 := ⟨_, rfl⟩
    rw [hw1] at h1 ⊢
    clear hw1 x0 f0 z0
    go_wp2_with fail
    refine (hfe.out _ h1.out).mono ?_
    rintro e w2 ⟨rfl, h2⟩
    have x2 := h2.cell
    replace h2 := hid h2
    clear h1 hfe
    go_wp2
    exact bodyPost_ret (v := .tuple #[]) (by simp [results, Tryz.results22]) rfl ⟨rfl, by rw [hE.out]; exact h2.out⟩
end Go.Proofs.YtgpmpfikeindfaaGreatDoor

/- What the program's step answers. -/
namespace Go.Proofs.YtgpmpfikeindfaaGreatDoor
open Go.ChangeShapes Go.WideShapes Go.ChangeAt Go.RowKit Go.Shelf
set_option linter.unusedVariables false
set_option linter.unusedSimpArgs false

theorem rowr_one {W : World} {b : Nat} {n : Int} {t : TypeId} (h : W.heap[b]? = some (.cells #[.int .i64 n] t (0, 0))) : RowR W (.slice (some ⟨b, 0, none⟩) [n].length 1) [n] := by
  refine ⟨some ⟨b, 0, none⟩, 1, rfl, .inr ⟨b, 0, rfl, fun i hi => ?_⟩⟩
  have : i = 0 := by simpa using hi
  subst this
  simp [World.cell?, h]
theorem cf_one (c : Cu) (M : Mem) (n : Int) : cfM c M [n] = if (okC c && okM M) = true then (if inB n 0 255 = true then 0 else 4) else 1 := by
  unfold cfM faultM
  cases okC c <;> cases okM M <;> simp
set_option maxRecDepth 100000 in
set_option maxHeartbeats 4000000 in
theorem stp_impl_bad (c : Cu) (v : Value) (M : Mem) (n : Int) (w : World) (h : MemR w v M) (hf : Fit M) (hb0 : (okC c && okM M) = false) :
    Calls Tryz.prog 7 #[cuV c, v, .int .i64 n] w fun e w' => ∃ u cv, e = .returned (.tuple #[cpV (mx0).c, u, cv, .int .i64 (1)]) ∧ Ans w w' (mx0) u cv := by
  obtain ⟨a1, p1, a2, p2, rfl, _, _⟩ := h.form
  have hask : Hid (∀ W' b, Below w.heap.size w W' → W'.heap[b]? = some (.cells #[.int .i64 n] 3 (0, 0)) → Calls Tryz.prog 19 #[cuV c, memV (.slice a1 M.rom.length p1) (.slice a2 M.ram.length p2) M.page M.screen M.locked, .slice (some ⟨b, 0, none⟩) 1 1] W' fun e w' => e = .returned (.int .i64 (cfM c M [n])) ∧ Below W'.heap.size W' w') := fun W' b hb he => cfault_impl c _ M (some ⟨b, 0, none⟩) 1 [n] W' (h.below hb) hf (rowr_one he) (by simp)
  rw [cf_one] at hask
  rw [hb0, if_neg (by simp)] at hask
  clear h hf hb0
  go_enter Tryz.func7, Tryz.ntmps7
  go_upto_region 1 with fail
  obtain ⟨V, hV⟩ : ∃ V, ((((w.alloc (.cells (cuA c) 25)).alloc (.cells #[.slice a1 M.rom.length p1, .slice a2 M.ram.length p2, .int .i64 M.page, .int .i64 M.screen, .bool M.locked] 30)).alloc (.cells zC 25)).alloc (.cells zM 30)) = V := ⟨_, rfl⟩
  rw [hV]
  have hs := hid (four_four hV)
  have x0 := hs.out.1.cell
  have x1 := hs.out.2.1.cell
  clear hV
  have ha := hs.out.2.2.2.2.1.alloc hs.out.2.2.2.2.1.size (.cells #[.int .i64 n] 3)
  have hE1 := hid (hask.out _ V.heap.size ha (heap_alloc_new V _))
  replace ha := hid ha
  have hs1 := hid (And.intro (hs.out.1.alloc (.cells #[.int .i64 n] 3)) (And.intro (hs.out.2.1.alloc (.cells #[.int .i64 n] 3)) (And.intro (hs.out.2.2.1.alloc (.cells #[.int .i64 n] 3)) (And.intro (hs.out.2.2.2.1.alloc (.cells #[.int .i64 n] 3)) ha.out))))
  go_wp2_with fail
  refine (hE1.out).mono ?_
  rintro e w1 ⟨rfl, hb⟩
  replace hs := hs1
  clear hs1 hE1 ha
  have q2 := hs.out.2.2.1.below hb hs.out.2.2.1.lt
  have q3 := hs.out.2.2.2.1.below hb hs.out.2.2.2.1.lt
  have hb1 := new_trans hs.out.2.2.2.2 hb
  have hz1 := hb1.size
  obtain ⟨WF, hWF⟩ : ∃ WF, sets (sets w1 (w.heap.size + 1 + 1) 0 zCL) (w.heap.size + 1 + 1 + 1) 0 zML = WF := ⟨_, rfl⟩
  have F := fin_blk q2 q3 (by omega) hb1 (by omega) (by omega) zCL zML
  have l2 := q2.lt
  have l3 := q3.lt
  rw [zset1, zset2, hWF] at F
  have y2 := q2.cell
  have f2 := q2.frozen
  have y3 := q3.cell
  have f3 := q3.frozen
  simp only [sets, zCL, zML, Nat.zero_add, Nat.reduceAdd] at hWF
  replace F := hid F
  replace hWF := hid hWF
  clear hb hs x0 x1 q2 q3 hb1
  go_wp2
  rw [hWF.out]
  obtain ⟨F1, F2, F3, F4, F5⟩ := F.out
  clear F hWF y2 f2 y3 f3
  refine bodyPost_ret (v := .tuple #[cpV mx0.c, memV (.slice none 0 0) (.slice none 0 0) 0 0 false, .slice none 0 0, .int .i64 1]) (by simp [results, Tryz.results7, go_sem, F1, F2, mx0, cp0]) rfl ⟨_, _, rfl, ?_⟩
  exact Ans.none cp0 F5
set_option maxRecDepth 100000 in
set_option maxHeartbeats 4000000 in
theorem stp_impl_rng (c : Cu) (v : Value) (M : Mem) (n : Int) (w : World) (h : MemR w v M) (hf : Fit M) (hb0 : (okC c && okM M) = true) (hn : inB n 0 255 = false) :
    Calls Tryz.prog 7 #[cuV c, v, .int .i64 n] w fun e w' => ∃ u cv, e = .returned (.tuple #[cpV (mx0).c, u, cv, .int .i64 (4)]) ∧ Ans w w' (mx0) u cv := by
  obtain ⟨a1, p1, a2, p2, rfl, _, _⟩ := h.form
  have hask : Hid (∀ W' b, Below w.heap.size w W' → W'.heap[b]? = some (.cells #[.int .i64 n] 3 (0, 0)) → Calls Tryz.prog 19 #[cuV c, memV (.slice a1 M.rom.length p1) (.slice a2 M.ram.length p2) M.page M.screen M.locked, .slice (some ⟨b, 0, none⟩) 1 1] W' fun e w' => e = .returned (.int .i64 (cfM c M [n])) ∧ Below W'.heap.size W' w') := fun W' b hb he => cfault_impl c _ M (some ⟨b, 0, none⟩) 1 [n] W' (h.below hb) hf (rowr_one he) (by simp)
  rw [cf_one] at hask
  rw [hb0, hn, if_pos rfl, if_neg (by simp)] at hask
  clear h hf hb0
  go_enter Tryz.func7, Tryz.ntmps7
  go_upto_region 1 with fail
  obtain ⟨V, hV⟩ : ∃ V, ((((w.alloc (.cells (cuA c) 25)).alloc (.cells #[.slice a1 M.rom.length p1, .slice a2 M.ram.length p2, .int .i64 M.page, .int .i64 M.screen, .bool M.locked] 30)).alloc (.cells zC 25)).alloc (.cells zM 30)) = V := ⟨_, rfl⟩
  rw [hV]
  have hs := hid (four_four hV)
  have x0 := hs.out.1.cell
  have x1 := hs.out.2.1.cell
  clear hV
  have ha := hs.out.2.2.2.2.1.alloc hs.out.2.2.2.2.1.size (.cells #[.int .i64 n] 3)
  have hE1 := hid (hask.out _ V.heap.size ha (heap_alloc_new V _))
  replace ha := hid ha
  have hs1 := hid (And.intro (hs.out.1.alloc (.cells #[.int .i64 n] 3)) (And.intro (hs.out.2.1.alloc (.cells #[.int .i64 n] 3)) (And.intro (hs.out.2.2.1.alloc (.cells #[.int .i64 n] 3)) (And.intro (hs.out.2.2.2.1.alloc (.cells #[.int .i64 n] 3)) ha.out))))
  go_wp2_with fail
  refine (hE1.out).mono ?_
  rintro e w1 ⟨rfl, hb⟩
  replace hs := hs1
  clear hs1 hE1 ha
  have q2 := hs.out.2.2.1.below hb hs.out.2.2.1.lt
  have q3 := hs.out.2.2.2.1.below hb hs.out.2.2.2.1.lt
  have hb1 := new_trans hs.out.2.2.2.2 hb
  have hz1 := hb1.size
  obtain ⟨WF, hWF⟩ : ∃ WF, sets (sets w1 (w.heap.size + 1 + 1) 0 zCL) (w.heap.size + 1 + 1 + 1) 0 zML = WF := ⟨_, rfl⟩
  have F := fin_blk q2 q3 (by omega) hb1 (by omega) (by omega) zCL zML
  have l2 := q2.lt
  have l3 := q3.lt
  rw [zset1, zset2, hWF] at F
  have y2 := q2.cell
  have f2 := q2.frozen
  have y3 := q3.cell
  have f3 := q3.frozen
  simp only [sets, zCL, zML, Nat.zero_add, Nat.reduceAdd] at hWF
  replace F := hid F
  replace hWF := hid hWF
  clear hb hs x0 x1 q2 q3 hb1
  go_wp2
  rw [hWF.out]
  obtain ⟨F1, F2, F3, F4, F5⟩ := F.out
  clear F hWF y2 f2 y3 f3
  refine bodyPost_ret (v := .tuple #[cpV mx0.c, memV (.slice none 0 0) (.slice none 0 0) 0 0 false, .slice none 0 0, .int .i64 4]) (by simp [results, Tryz.results7, go_sem, F1, F2, mx0, cp0]) rfl ⟨_, _, rfl, ?_⟩
  exact Ans.none cp0 F5
set_option maxRecDepth 100000 in
set_option maxHeartbeats 4000000 in
theorem stp_impl_ok (c : Cu) (v : Value) (M : Mem) (n : Nat) (w : World) (h : MemR w v M) (hf : Fit M) (hb0 : (okC c && okM M) = true) (hn : n < 256) (hG : Flags w) (hD : Conds w) (hK : Kinds w) :
    Calls Tryz.prog 7 #[cuV c, v, .int .i64 (n : Int)] w fun e w' => ∃ u cv, e = .returned (.tuple #[cpV (stepM c.cp M n).c, u, cv, .int .i64 (0)]) ∧ Ans w w' (stepM c.cp M n) u cv := by
  obtain ⟨a1, p1, a2, p2, rfl, _, _⟩ := h.form
  have hask : Hid (∀ W' b, Below w.heap.size w W' → W'.heap[b]? = some (.cells #[.int .i64 (n : Int)] 3 (0, 0)) → Calls Tryz.prog 19 #[cuV c, memV (.slice a1 M.rom.length p1) (.slice a2 M.ram.length p2) M.page M.screen M.locked, .slice (some ⟨b, 0, none⟩) 1 1] W' fun e w' => e = .returned (.int .i64 (cfM c M [(n : Int)])) ∧ Below W'.heap.size W' w') := fun W' b hb he => cfault_impl c _ M (some ⟨b, 0, none⟩) 1 [(n : Int)] W' (h.below hb) hf (rowr_one he) (by simp)
  rw [cf_one] at hask
  rw [hb0, if_pos rfl, in_yes (by omega) (by omega), if_pos rfl] at hask
  have hk : okC c = true ∧ okM M = true := by simpa using hb0
  obtain ⟨hce, hco⟩ := okC_cp hk.1
  have hnew : Hid (∀ W', Below w.heap.size w W' → Calls _ _ _ W' _) := fun W' hb => newp_impl c.cp _ M n W' (h.below hb) hk.2 hf
  have hinv := step_inv hco hk.2 hn
  have hok : okM (stepM c.cp M n).m = true := hinv.m
  have hans : Hid (∀ w0 W' lo hi B r s G Q Y, Brd W' lo hi B r s G Q M → Blk W' Y (proT c.cp B n .nilFunc) → ¬ brdB lo hi B Q Y → w0.heap.size ≤ Y → w0.heap.size ≤ lo → Below w0.heap.size w0 W' → Below w.heap.size w w0 → Calls Tryz.prog 21 #[.pointer (some ⟨Y, 0, none⟩), .func (.func 22) #[.pointer (some ⟨Y, 0, none⟩)] #[]] W' fun e W'' => ∃ u cv, e = .returned (.tuple #[cpV (stepM c.cp M n).c, u, cv, .int .i64 0]) ∧ Ans w0 W'' (stepM c.cp M n) u cv) := fun w0 W' lo hi B r s G Q Y hB hY hYb hYf hlo hbel hw0 =>
    answer_impl w0 22 Y B lo hi r s n G Q c.cp M (stepM c.cp M n) W' hk.2 hok (Nat.le_trans hinv.len (by omega)) (enters_of Tryz.func22 (by kernel_rfl) rfl) hY hB hYb hYf hlo hbel (fun p z hT e1 e2 e3 W2 hA => by
      have := pstep p hT z W2 c.cp M hA (by rw [e1]; exact flags_below hG hw0) (by rw [e1]; exact hD.below hw0) (by rw [e1]; exact hK.below hw0) hk.2 hco (by rw [e3]; exact hn)
      rw [e2, e3] at this
      exact this)
  rw [hce]
  rw [hce] at hask
  clear h hf hb0 hce hk hco hinv hG hD hK
  generalize stepM c.cp M n = X at *
  generalize c.cp = d at *
  go_enter Tryz.func7, Tryz.ntmps7
  go_upto_region 1 with fail
  obtain ⟨V, hV⟩ : ∃ V, ((((w.alloc (.cells (cpA d) 25)).alloc (.cells #[.slice a1 M.rom.length p1, .slice a2 M.ram.length p2, .int .i64 M.page, .int .i64 M.screen, .bool M.locked] 30)).alloc (.cells zC 25)).alloc (.cells zM 30)) = V := ⟨_, rfl⟩
  rw [hV]
  have hs := hid (four_four hV)
  have x0 := hs.out.1.cell
  have x1 := hs.out.2.1.cell
  clear hV
  have ha := hs.out.2.2.2.2.1.alloc hs.out.2.2.2.2.1.size (.cells #[.int .i64 (n : Int)] 3)
  have hE1 := hid (hask.out _ V.heap.size ha (heap_alloc_new V _))
  replace ha := hid ha
  have hs1 := hid (And.intro (hs.out.1.alloc (.cells #[.int .i64 (n : Int)] 3)) (And.intro (hs.out.2.1.alloc (.cells #[.int .i64 (n : Int)] 3)) (And.intro (hs.out.2.2.1.alloc (.cells #[.int .i64 (n : Int)] 3)) (And.intro (hs.out.2.2.2.1.alloc (.cells #[.int .i64 (n : Int)] 3)) ha.out))))
  go_wp2_with fail
  refine (hE1.out).mono ?_
  rintro e w1 ⟨rfl, hb⟩
  replace hs := hs1
  clear hs1 hE1 ha
  have q0 := hid (hs.out.1.below hb hs.out.1.lt)
  have q1 := hid (hs.out.2.1.below hb hs.out.2.1.lt)
  have q2 := hid (hs.out.2.2.1.below hb hs.out.2.2.1.lt)
  have q3 := hid (hs.out.2.2.2.1.below hb hs.out.2.2.2.1.lt)
  have hb1 := hid (new_trans hs.out.2.2.2.2 hb)
  clear hb hs hask x0 x1
  have x0 := q0.out.cell
  have x1 := q1.out.cell
  go_wp2_with fail
  refine (hnew.out _ hb1.out).mono ?_
  rintro e w2 ⟨lo, hi, B, r, s, G, Q, Y, rfl, hB, hY, hYb, hYf, hlo, hb2⟩
  have hcall := hid (hans.out w1 w2 lo hi B r s G Q Y hB hY hYb hYf hlo hb2 hb1.out)
  clear hB hY hYb hYf hlo hb2 hans hnew x0 x1 q0 q1
  go_wp2_with fail
  refine hcall.out.mono ?_
  rintro e w3 ⟨u, cv, rfl, hA⟩
  have hE := lay_ans hb1.out q2.out q3.out (by omega) (by omega) (by omega) hA
  obtain ⟨g1, h1, g2, h2, rfl⟩ := hA.form
  obtain ⟨k2, k3, hF⟩ := hE
  obtain ⟨WF, hWF⟩ : ∃ WF, sets (sets w3 (w.heap.size + 1 + 1) 0 (cpuL X.c)) (w.heap.size + 1 + 1 + 1) 0 (meL (.slice g1 X.m.rom.length h1) (.slice g2 X.m.ram.length h2) X.m) = WF := ⟨_, rfl⟩
  obtain ⟨F1, F2, F3⟩ := hF _ _ rfl WF hWF
  simp only [sets, cpuL, meL, Nat.zero_add, Nat.reduceAdd] at hWF
  have y2 := k2.cell
  have f2 := k2.frozen
  have y3 := k3.cell
  have f3 := k3.frozen
  have l2 := k2.lt
  have l3 := k3.lt
  replace F3 := hid F3
  replace hWF := hid hWF
  clear hA hF k2 k3 hcall
  go_wp2
  rw [hWF.out]
  refine bodyPost_ret (v := .tuple #[cpV X.c, memV (.slice g1 X.m.rom.length h1) (.slice g2 X.m.ram.length h2) X.m.page X.m.screen X.m.locked, cv, .int .i64 0]) (by simp [results, Tryz.results7, go_sem, F1, F2]) rfl ⟨_, _, rfl, F3.out⟩
theorem stp_impl (c : Cu) (v : Value) (M : Mem) (n : Int) (w : World) (h : MemR w v M) (hf : Fit M) (hG : Flags w) (hD : Conds w) (hK : Kinds w) :
    Calls Tryz.prog 7 #[cuV c, v, .int .i64 n] w fun e w' => ∃ u cv, e = .returned (.tuple #[cpV (stpX c M n).c, u, cv, .int .i64 (stpC c M n)]) ∧ Ans w w' (stpX c M n) u cv := by
  unfold stpX stpC
  cases hb0 : okC c && okM M
  · exact stp_impl_bad c v M n w h hf hb0
  · cases hn : inB n 0 255
    · exact stp_impl_rng c v M n w h hf hb0 hn
    · obtain ⟨N, rfl⟩ : ∃ N : Nat, n = N := ⟨n.toNat, by have := inB_bd hn; omega⟩
      have := stp_impl_ok c v M N w h hf hb0 (by have := inB_bd hn; omega) hG hD hK
      rw [if_pos rfl, if_pos rfl, if_pos rfl, if_pos rfl, Int.toNat_natCast]
      exact this
end Go.Proofs.YtgpmpfikeindfaaGreatDoor
