/- ReadSnap: the program. -/
import Derived.Test.YtghcagibdcblnaaDoorNtr
import Derived.Test.YtghcagibdcblnaaDoorR28
import Derived.Test.YtghcagibdcblnaaDoorR21
import Derived.LaidMore
import Derived.Stop.LaidErr
import Derived.Stop.Joined
namespace Go.Proofs.YtghcagibdcblnaaDoor
open Go.ChangeShapes Go.WideShapes Go.ChangeAt Go.RowKit
set_option linter.unusedVariables false
set_option linter.unusedSimpArgs false

set_option maxRecDepth 100000 in
set_option maxHeartbeats 1000000 in
theorem readsn_impl (t rom : ByteArray) (e0 e1 e2 : Addr) (w : World) (ht : t.size ≤ maxLen) (hr : rom.size ≤ maxLen) (hE : Errs w e0 e1 e2) : Calls Tryd.prog 5 #[.string t, .string rom] w (RdOut w (read2 t rom)) := by
  unfold maxLen at ht hr
  have q := hid (Blk.new w zS 32)
  have hb := hid ((Below.refl w.heap.size w).alloc (Nat.le_refl _) (.cells zS 32))
  by_cases h1 : 65536 < t.size ∨ 65536 < rom.size
  · have e : read2 t rom = (sn0, 2) := by unfold read2; rw [if_pos h1]
    rw [e]
    clear e hE
    go_enter Tryd.func5, Tryd.ntmps5
    go_upto_region 1 with fail
    obtain ⟨V, hV⟩ : ∃ V, w.alloc (.cells zS 32) = V := ⟨_, rfl⟩
    rw [hV] at q hb ⊢
    clear hV
    rw [zS_eq] at q
    have hth := hid (blk_there q.out (o := 0) (n := (snA sn0 nl nl).size) (by show 0 + 31 ≤ 31; omega))
    obtain ⟨wF, hwF⟩ : ∃ X, V.setCells w.heap.size 0 (snA sn0 nl nl).toList = X := ⟨_, rfl⟩
    have hRF : Hid (Blk wF w.heap.size (snA sn0 nl nl)) := by
      rw [← hwF]
      have := layE_blk w.heap.size (snA sn0 nl nl).toList _ 0 _ q.out
      rw [sn_layA] at this
      exact this
    have hBF : Hid (Below w.heap.size w wF) := by rw [← hwF]; exact layE_below _ 0 _ (Nat.le_refl _) hb.out
    replace hwF := hid hwF
    clear q hb
    have h2 : Hid (65536 < (t.size : Int)) ∨ Hid (¬ 65536 < (t.size : Int) ∧ 65536 < (rom.size : Int)) := by
      by_cases hh : 65536 < t.size
      · exact .inl (by unfold Hid; omega)
      · exact .inr ⟨by omega, by omega⟩
    rcases h2 with h2 | h2
    · have c1 := h2.out
      clear h2 h1
      go_upto_region 2 with fail
      go_wp2_with (guard_target = wpList _ _ _ (Oper.mk _ (Op.store _ _ _) _ _ _ _ :: _) _ _; refine wpList_store_mid rfl 32 _ _ rfl w.heap.size 0 (snA sn0 nl nl) rfl rfl hth.out (szS2 _ _ _) (sn_one _ rfl rfl) ?_; rw [hwF.out])
      obtain ⟨tt, htt⟩ := hRF.out
      exact bodyPost_ret (v := .tuple #[.agg (snA sn0 nl nl), .int .i64 2]) (results_cell_tmpS Tryd.results5 _ _ w.heap.size tt (snA sn0 nl nl) (0, 0) _ _ rfl rfl htt Tryd.underlying32 rfl (szS2 _ _ _)) rfl ⟨nl, nl, rfl, MemO.zero _ _ _, hBF.out⟩
    · have c1 := h2.out.1
      have c2 := h2.out.2
      clear h2 h1
      go_upto_region 2 with fail
      go_wp2_with (guard_target = wpList _ _ _ (Oper.mk _ (Op.store _ _ _) _ _ _ _ :: _) _ _; refine wpList_store_mid rfl 32 _ _ rfl w.heap.size 0 (snA sn0 nl nl) rfl rfl hth.out (szS2 _ _ _) (sn_one _ rfl rfl) ?_; rw [hwF.out])
      obtain ⟨tt, htt⟩ := hRF.out
      exact bodyPost_ret (v := .tuple #[.agg (snA sn0 nl nl), .int .i64 2]) (results_cell_tmpS Tryd.results5 _ _ w.heap.size tt (snA sn0 nl nl) (0, 0) _ _ rfl rfl htt Tryd.underlying32 rfl (szS2 _ _ _)) rfl ⟨nl, nl, rfl, MemO.zero _ _ _, hBF.out⟩
  have c1 : ¬ 65536 < (t.size : Int) := by omega
  have c2 : ¬ 65536 < (rom.size : Int) := by omega
  have hL : Hid (∀ X, Rdr w X e0 e1 e2 (w.heap.size + 1) t 0 → Calls Tryd.prog 10 #[.pointer (some ⟨w.heap.size + 1, 0, none⟩), .string rom] X (RdQ X (w.heap.size + 1) (read2 t rom))) := fun X hX => by
    unfold read2
    rw [if_neg h1]
    by_cases h2 : rom.size = 64
    · rw [if_pos h2]
      exact snap_impl hX h2
    · rw [if_neg h2]
      exact snap_bad hX (by omega) h2
  have hRd : Hid (∀ W', Below w.heap.size w W' → W'.heap.size = w.heap.size + 1 → Rdr w (W'.alloc (.cells #[.string t, .int .i64 0] 42)) e0 e1 e2 (w.heap.size + 1) t 0) := fun W' hb2 hs => ⟨hE, hb2.alloc hb2.size _, by omega, by
    have := Blk.new W' #[.string t, .int .i64 0] 42
    rw [hs] at this
    exact this, by omega, by omega⟩
  generalize read2 t rom = R at *
  clear h1 hE
  go_enter Tryd.func5, Tryd.ntmps5
  go_upto_region 1 with fail
  obtain ⟨V, hV⟩ : ∃ V, w.alloc (.cells zS 32) = V := ⟨_, rfl⟩
  have hVs : Hid (V.heap.size = w.heap.size + 1) := by unfold Hid; rw [← hV]; simp
  rw [hV] at q hb ⊢
  clear hV
  rw [zS_eq] at q
  have hRd2 := hid (hRd.out V hb.out hVs.out)
  have q2 := hid (q.out.alloc (.cells #[.string t, .int .i64 0] 42))
  have hb2 := hid (hb.out.alloc hb.out.size (.cells #[.string t, .int .i64 0] 42))
  have hVe := hVs.out
  go_upto_region 4 with fail
  obtain ⟨V2, hV2⟩ : ∃ V2, V.alloc (.cells #[.string t, .int .i64 0] 42) = V2 := ⟨_, rfl⟩
  have hV2s : Hid (V2.heap.size = w.heap.size + 2) := by unfold Hid; rw [← hV2, World.size_alloc, hVs.out]
  rw [hV2] at hRd2 q2 hb2 ⊢
  clear hV2 hVe hVs q hb hRd
  go_wp2_with fail
  refine (hL.out _ hRd2.out).mono ?_
  rintro e w1 ⟨vr, vm, rfl, hO, k1⟩
  obtain ⟨o1, o2⟩ := memO_form2 hO
  have q1 := k1.blk q2.out (by simp)
  have hb1 := hid (k1.below hb2.out hb2.out.size (by simp))
  have hth := hid (blk_there q1 (o := 0) (n := (snA R.1 vr vm).size) (by show 0 + 31 ≤ 31; omega))
  have hso := hid (sn_one R.1 o1 o2)
  obtain ⟨wF, hwF⟩ : ∃ X, w1.setCells w.heap.size 0 (snA R.1 vr vm).toList = X := ⟨_, rfl⟩
  have hRF : Hid (Blk wF w.heap.size (snA R.1 vr vm)) := by
    rw [← hwF]
    have := layE_blk w.heap.size (snA R.1 vr vm).toList _ 0 _ q1
    rw [sn_layA] at this
    exact this
  have hBF : Hid (Below w.heap.size w wF) := by rw [← hwF]; exact layE_below _ 0 _ (Nat.le_refl _) hb1.out
  have hOF : Hid (MemO wF w.heap.size wF.heap.size (memV vr vm R.1.m.page R.1.m.screen R.1.m.locked) R.1.m) := by
    have hv := hV2s.out
    have hsF : wF.heap.size = w1.heap.size := by rw [← hwF, size_cells]
    exact (hO.kept (w' := wF) (fun b hb1 hb2 => by rw [← hwF]; exact layE_heap _ _ _ _ (by omega))).mono (by omega) (by omega)
  replace hwF := hid hwF
  clear q2 hb2 hO q1 hL hb1 o1 o2 k1
  go_wp2_with (guard_target = wpList _ _ _ (Oper.mk _ (Op.store _ _ _) _ _ _ _ :: _) _ _; refine wpList_store_mid rfl 32 _ _ rfl w.heap.size 0 (snA R.1 vr vm) rfl rfl hth.out (szS2 _ _ _) hso.out ?_; rw [hwF.out])
  obtain ⟨tt, htt⟩ := hRF.out
  exact bodyPost_ret (v := .tuple #[.agg (snA R.1 vr vm), .int .i64 R.2]) (results_cell_tmpS Tryd.results5 _ _ w.heap.size tt (snA R.1 vr vm) (0, 0) _ _ rfl rfl htt Tryd.underlying32 rfl (szS2 _ _ _)) rfl ⟨vr, vm, rfl, hOF.out, hBF.out⟩
end Go.Proofs.YtghcagibdcblnaaDoor

/- What the row's list of the cursor's three errors gives: three cells that point to three blocks of their own. -/
namespace Go.Proofs.YtghcagibdcblnaaDoor
open Go.ChangeShapes Go.WideShapes Go.ChangeAt Go.RowKit
set_option linter.unusedVariables false

theorem eStar : "*errors.errorString" = "*" ++ "errors.errorString" := by decide
theorem eRow (u : TypeId) (h : Tryd.prog.typeName? 3 u = some "*errors.errorString") : u = 140 :=
  typeName_ptr_named (nm := "errors.errorString") (by rw [← eStar]; kernel_rfl) (by kernel_rfl) (by decide) u (by rw [← eStar]; exact h)
theorem g0n : Tryd.prog.globalNamed "loop.example/g00644/impl.errCursor" = some 0 := by kernel_rfl
theorem g1n : Tryd.prog.globalNamed "loop.example/g00644/impl.errCount" = some 1 := by kernel_rfl
theorem g2n : Tryd.prog.globalNamed "loop.example/g00644/impl.errAtEnd" = some 2 := by kernel_rfl
theorem g0t : (Tryd.prog.globals[0]?).map (·.type) = some 93 := by kernel_rfl
theorem g1t : (Tryd.prog.globals[1]?).map (·.type) = some 93 := by kernel_rfl
theorem g2t : (Tryd.prog.globals[2]?).map (·.type) = some 93 := by kernel_rfl
theorem eCells : Tryd.prog.cellsOf 164 = 1 := by kernel_rfl
theorem sCells : Tryd.prog.cellsOf 9 = 1 := by kernel_rfl

set_option maxRecDepth 100000 in
theorem errs_of {W : World} (h : laidMetH Tryd.prog [("loop.example/g00644/impl.errCursor", Rows.laid_loop_example_g00644_impl_errCursor), ("loop.example/g00644/impl.errCount", Rows.laid_loop_example_g00644_impl_errCount), ("loop.example/g00644/impl.errAtEnd", Rows.laid_loop_example_g00644_impl_errAtEnd)] W) :
    ∃ e0 e1 e2, Errs W e0 e1 e2 := by
  rw [MakeChecks.laidMetH_plain _ _ _ (by kernel_rfl)] at h
  obtain ⟨ps, ⟨g0, t0, cs0, f0, p0, q0, hg0, ht0, hv0, hd0, ⟨g1, t1, cs1, f1, p1, q1, hg1, ht1, hv1, hd1, ⟨g2, t2, cs2, f2, p2, q2, hg2, ht2, hv2, hd2, _, k2⟩, k1⟩, k0⟩, hnd, hrows⟩ := h
  obtain rfl := Option.some.inj (g0n.symm.trans hg0)
  obtain rfl := Option.some.inj (g1n.symm.trans hg1)
  obtain rfl := Option.some.inj (g2n.symm.trans hg2)
  obtain rfl := Option.some.inj (g0t.symm.trans ht0)
  obtain rfl := Option.some.inj (g1t.symm.trans ht1)
  obtain rfl := Option.some.inj (g2t.symm.trans ht2)
  subst k2
  subst k1
  subst k0
  obtain ⟨l0⟩ := cs0
  obtain ⟨l1⟩ := cs1
  obtain ⟨l2⟩ := cs2
  have ok0 : ∀ u v, l0 = [.iface u v] → Value.okWide Tryd.prog W .any 0 u v := fun u v e => by
    subst e
    exact (hrows 0 0 (by simp [MemPlace.row])).2 u v (by simpa using World.var?_cell hg0 hv0 0)
  have ok1 : ∀ u v, l1 = [.iface u v] → Value.okWide Tryd.prog W .any 0 u v := fun u v e => by
    subst e
    exact (hrows 1 0 (by simp [MemPlace.row])).2 u v (by simpa using World.var?_cell hg1 hv1 0)
  have ok2 : ∀ u v, l2 = [.iface u v] → Value.okWide Tryd.prog W .any 0 u v := fun u v e => by
    subst e
    exact (hrows 2 0 (by simp [MemPlace.row])).2 u v (by simpa using World.var?_cell hg2 hv2 0)
  obtain ⟨a0, s0, rfl, _, _, _, rfl⟩ := errorString_of_trod Tryd.underlying93 eRow Tryd.underlying140 Tryd.underlying164 rfl rfl Tryd.underlying9 eCells sCells hd0 ok0
  obtain ⟨a1, s1, rfl, _, _, _, rfl⟩ := errorString_of_trod Tryd.underlying93 eRow Tryd.underlying140 Tryd.underlying164 rfl rfl Tryd.underlying9 eCells sCells hd1 ok1
  obtain ⟨a2, s2, rfl, _, _, _, rfl⟩ := errorString_of_trod Tryd.underlying93 eRow Tryd.underlying140 Tryd.underlying164 rfl rfl Tryd.underlying9 eCells sCells hd2 ok2
  refine ⟨a0, a1, a2, ?_, ?_, ?_, ?_, ?_, ?_, (hrows a0.block a0.off (by simp [MemPlace.row])).1, (hrows a1.block a1.off (by simp [MemPlace.row])).1, (hrows a2.block a2.off (by simp [MemPlace.row])).1⟩
  · simpa using World.var?_cell hg0 hv0 0
  · simpa using World.var?_cell hg1 hv1 0
  · simpa using World.var?_cell hg2 hv2 0
  · rintro rfl; simp [MemPlace.row] at hnd
  · rintro rfl; simp [MemPlace.row] at hnd
  · rintro rfl; simp [MemPlace.row] at hnd
end Go.Proofs.YtghcagibdcblnaaDoor
