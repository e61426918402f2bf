/- What the specification's step answers. -/
import Derived.Test.YtgpmpfikeindfaaGreatDoorV12
import Derived.Test.YtgpmpfikeindfaaGreatDoorHdv
import Derived.Deep.RegionWith
import Derived.BigRegion
import Derived.Test.YtgpmpfikeindfaaGreatDoorV01
import Derived.Test.YtgpmpfikeindfaaGreatDoorV02
namespace Go.Proofs.YtgpmpfikeindfaaGreatDoor
open Go.ChangeShapes Go.WideShapes Go.ChangeAt Go.RowKit
set_option linter.unusedVariables false
set_option linter.unusedSimpArgs false

set_option maxRecDepth 100000 in
set_option maxHeartbeats 4000000 in
theorem stp_spec_bad (c : Cu) (v : Value) (M : Mem) (n : Int) (w : World) (h : MemR w v M) (hf : Fit M) (hb0 : (okC c && okM M) = false) :
    Calls Tryz.prog 8 #[cuV c, v, .int .i64 n] w fun e w' => ∃ u cv, e = .returned (.tuple #[cpV (mx0).c, u, cv, .int .i64 (1)]) ∧ Ans w w' (mx0) u cv := by
  obtain ⟨a1, p1, a2, p2, rfl, _, _⟩ := h.form
  have hask : Hid (∀ W', Below w.heap.size w W' → Calls _ _ _ W' _) := fun W' hb => cask_spec c _ M W' (h.below hb) hf
  rw [hb0] at hask
  clear h hf hb0
  go_enter Tryz.func8, Tryz.ntmps8
  go_upto_region 1 with fail
  obtain ⟨V, hV⟩ : ∃ V, ((((w.alloc (.cells (cuA c) 25)).alloc (.cells #[.slice a1 M.rom.length p1, .slice a2 M.ram.length p2, .int .i64 M.page, .int .i64 M.screen, .bool M.locked] 30)).alloc (.cells zC 25)).alloc (.cells zM 30)) = V := ⟨_, rfl⟩
  rw [hV]
  have hs := hid (four_four hV)
  have x0 := hs.out.1.cell
  have x1 := hs.out.2.1.cell
  clear hV
  go_wp2_with fail
  refine (hask.out _ hs.out.2.2.2.2.1).mono ?_
  rintro e w1 ⟨rfl, hb⟩
  have q2 := hs.out.2.2.1.below hb hs.out.2.2.1.lt
  have q3 := hs.out.2.2.2.1.below hb hs.out.2.2.2.1.lt
  have hb1 := new_trans hs.out.2.2.2.2.1 hb
  have hz1 := hb1.size
  obtain ⟨WF, hWF⟩ : ∃ WF, sets (sets w1 (w.heap.size + 1 + 1) 0 zCL) (w.heap.size + 1 + 1 + 1) 0 zML = WF := ⟨_, rfl⟩
  have F := fin_blk q2 q3 (by omega) hb1 (by omega) (by omega) zCL zML
  have l2 := q2.lt
  have l3 := q3.lt
  rw [zset1, zset2, hWF] at F
  have y2 := q2.cell
  have f2 := q2.frozen
  have y3 := q3.cell
  have f3 := q3.frozen
  simp only [sets, zCL, zML, Nat.zero_add, Nat.reduceAdd] at hWF
  replace F := hid F
  replace hWF := hid hWF
  clear hb hs x0 x1 q2 q3 hb1
  go_wp2
  rw [hWF.out]
  obtain ⟨F1, F2, F3, F4, F5⟩ := F.out
  clear F hWF y2 f2 y3 f3
  rw [← F4] at l2 l3 ⊢
  refine bodyPost_ret (v := .tuple #[cpV mx0.c, memV (.slice none 0 0) (.slice none 0 0) 0 0 false, .slice (some ⟨WF.heap.size, 0, none⟩) 0 0, .int .i64 1]) (by simp [results, Tryz.results8, go_sem, F1, F2, l2, l3, mx0, cp0]) rfl ⟨_, _, rfl, ?_⟩
  exact Ans.empty cp0 (F5.alloc F5.size _) (heap_alloc_new _ _) F5.size
set_option maxRecDepth 100000 in
set_option maxHeartbeats 4000000 in
theorem stp_spec_rng (c : Cu) (v : Value) (M : Mem) (n : Int) (w : World) (h : MemR w v M) (hf : Fit M) (hb0 : (okC c && okM M) = true) (hn : inB n 0 255 = false) :
    Calls Tryz.prog 8 #[cuV c, v, .int .i64 n] w fun e w' => ∃ u cv, e = .returned (.tuple #[cpV (mx0).c, u, cv, .int .i64 (4)]) ∧ Ans w w' (mx0) u cv := by
  obtain ⟨a1, p1, a2, p2, rfl, _, _⟩ := h.form
  have hask : Hid (∀ W', Below w.heap.size w W' → Calls _ _ _ W' _) := fun W' hb => cask_spec c _ M W' (h.below hb) hf
  rw [hb0] at hask
  clear h hf hb0
  go_enter Tryz.func8, Tryz.ntmps8
  go_upto_region 1 with fail
  obtain ⟨V, hV⟩ : ∃ V, ((((w.alloc (.cells (cuA c) 25)).alloc (.cells #[.slice a1 M.rom.length p1, .slice a2 M.ram.length p2, .int .i64 M.page, .int .i64 M.screen, .bool M.locked] 30)).alloc (.cells zC 25)).alloc (.cells zM 30)) = V := ⟨_, rfl⟩
  rw [hV]
  have hs := hid (four_four hV)
  have x0 := hs.out.1.cell
  have x1 := hs.out.2.1.cell
  clear hV
  go_wp2_with fail
  refine (hask.out _ hs.out.2.2.2.2.1).mono ?_
  rintro e w1 ⟨rfl, hb⟩
  have q2 := hs.out.2.2.1.below hb hs.out.2.2.1.lt
  have q3 := hs.out.2.2.2.1.below hb hs.out.2.2.2.1.lt
  have hb1 := new_trans hs.out.2.2.2.2.1 hb
  have hz1 := hb1.size
  obtain ⟨WF, hWF⟩ : ∃ WF, sets (sets w1 (w.heap.size + 1 + 1) 0 zCL) (w.heap.size + 1 + 1 + 1) 0 zML = WF := ⟨_, rfl⟩
  have F := fin_blk q2 q3 (by omega) hb1 (by omega) (by omega) zCL zML
  have l2 := q2.lt
  have l3 := q3.lt
  rw [zset1, zset2, hWF] at F
  have y2 := q2.cell
  have f2 := q2.frozen
  have y3 := q3.cell
  have f3 := q3.frozen
  simp only [sets, zCL, zML, Nat.zero_add, Nat.reduceAdd] at hWF
  replace F := hid F
  replace hWF := hid hWF
  clear hb hs x0 x1 q2 q3 hb1
  have hby := hid (fun w => byteM_spec n w)
  rw [hn] at hby
  go_wp2_with (go_at_call 24; refine (hby.out _).mono ?_; rintro e w' ⟨rfl, hww⟩; obtain rfl := hww.symm)
  rw [hWF.out]
  obtain ⟨F1, F2, F3, F4, F5⟩ := F.out
  clear F hWF y2 f2 y3 f3
  rw [← F4] at l2 l3 ⊢
  refine bodyPost_ret (v := .tuple #[cpV mx0.c, memV (.slice none 0 0) (.slice none 0 0) 0 0 false, .slice (some ⟨WF.heap.size, 0, none⟩) 0 0, .int .i64 4]) (by simp [results, Tryz.results8, go_sem, F1, F2, l2, l3, mx0, cp0]) rfl ⟨_, _, rfl, ?_⟩
  exact Ans.empty cp0 (F5.alloc F5.size _) (heap_alloc_new _ _) F5.size
set_option maxRecDepth 100000 in
set_option maxHeartbeats 4000000 in
theorem stp_spec_ok (c : Cu) (v : Value) (M : Mem) (n : Nat) (w : World) (h : MemR w v M) (hf : Fit M) (hb0 : (okC c && okM M) = true) (hn : n < 256) :
    Calls Tryz.prog 8 #[cuV c, v, .int .i64 (n : Int)] w fun e w' => ∃ u cv, e = .returned (.tuple #[cpV (stepM c.cp M n).c, u, cv, .int .i64 (0)]) ∧ Ans w w' (stepM c.cp M n) u cv := by
  obtain ⟨a1, p1, a2, p2, rfl, _, _⟩ := h.form
  have hask : Hid (∀ W', Below w.heap.size w W' → Calls _ _ _ W' _) := fun W' hb => cask_spec c _ M W' (h.below hb) hf
  rw [hb0] at hask
  have hk : okC c = true ∧ okM M = true := by simpa using hb0
  obtain ⟨hce, hco⟩ := okC_cp hk.1
  have hcu : cuA c = cpA c.cp := by
    have := hce
    simp only [cuV, cpV, Value.agg.injEq] at this
    exact this
  have hin : Hid (∀ W', Below w.heap.size w W' → Calls _ _ _ W' _) := fun W' hb => cstep_spec c.cp _ M n W' (h.below hb) hk.2 hco hn
  have hok : okM (stepM c.cp M n).m = true := (step_inv hco hk.2 hn).m
  rw [hce]
  rw [hce] at hask
  clear h hf hb0 hce hcu hk hco
  generalize stepM c.cp M n = X at *
  generalize c.cp = d at *
  have hown : Hid (∀ v W', MemR W' v X.m → Calls _ _ _ W' _) := fun v W' hm => own_spec v X.m W' hm hok
  go_enter Tryz.func8, Tryz.ntmps8
  go_upto_region 1 with fail
  obtain ⟨V, hV⟩ : ∃ V, ((((w.alloc (.cells (cpA d) 25)).alloc (.cells #[.slice a1 M.rom.length p1, .slice a2 M.ram.length p2, .int .i64 M.page, .int .i64 M.screen, .bool M.locked] 30)).alloc (.cells zC 25)).alloc (.cells zM 30)) = V := ⟨_, rfl⟩
  rw [hV]
  have hs := hid (four_four hV)
  have x0 := hs.out.1.cell
  have x1 := hs.out.2.1.cell
  clear hV
  go_wp2_with fail
  refine (hask.out _ hs.out.2.2.2.2.1).mono ?_
  rintro e w1 ⟨rfl, hb⟩
  have q0 := hid (hs.out.1.below hb hs.out.1.lt)
  have q1 := hid (hs.out.2.1.below hb hs.out.2.1.lt)
  have q2 := hid (hs.out.2.2.1.below hb hs.out.2.2.1.lt)
  have q3 := hid (hs.out.2.2.2.1.below hb hs.out.2.2.2.1.lt)
  have hb1 := hid (new_trans hs.out.2.2.2.2.1 hb)
  have x0 := q0.out.cell
  have x1 := q1.out.cell
  clear hb hs hask
  have hby := hid (fun w => byteM_spec (n : Int) w)
  rw [in_yes (by omega) (by omega)] at hby
  go_wp2_with (go_at_call 24; refine (hby.out _).mono ?_; rintro e w' ⟨rfl, hww⟩; obtain rfl := hww.symm)
  refine (hin.out _ hb1.out).mono ?_
  rintro e w2 ⟨vr, vm, cv, rfl, hO⟩
  obtain ⟨e1, p3, e2, p4, rfl, rfl⟩ := hO.form
  have hs2 := two_newC w2 (cpA X.c) #[.slice e1 X.m.rom.length p3, .slice e2 X.m.ram.length p4, .int .i64 X.m.page, .int .i64 X.m.screen, .bool X.m.locked] 25 30
  have hM := (hO.mem.mono (veil_le _ _)).below hs2.2.2
  have hL := lay_two hb1.out q2.out q3.out hO (by omega) (by omega) (by omega)
  replace hs2 := hid hs2
  replace hM := hid hM
  replace hL := hid hL
  clear q0 q1 q2 q3 hb1 x0 x1 hin hO
  go_upto_region 6 with fail
  obtain ⟨V2, hV2⟩ : ∃ V2, (w2.alloc (.cells (cpA X.c) 25)).alloc (.cells #[.slice e1 X.m.rom.length p3, .slice e2 X.m.ram.length p4, .int .i64 X.m.page, .int .i64 X.m.screen, .bool X.m.locked] 30) = V2 := ⟨_, rfl⟩
  rw [hV2] at hs2 hM ⊢
  clear hV2
  have x0 := hs2.out.1.cell
  have x1 := hs2.out.2.1.cell
  have z0 := hid hs2.out.1.drew
  have zB := hid hs2.out.2.2.drew
  have hMd : Hid (MemR V2.drew _ X.m) := hM.out
  clear hs2 hM
  go_region_with (go_at_call 26; refine (hown.out _ _ hMd.out).mono ?_; rintro e w3 ⟨u, rfl, hm3, hb3⟩; have hE := hid (hL.out _ zB.out w3 u hm3 hb3); have y0 := (z0.out.below hb3 z0.out.lt).cell; obtain ⟨g1, h1, g2, h2, rfl, _, _⟩ := hm3.reads.form; obtain ⟨k2, k3, hF⟩ := hE.out; have y2 := k2.cell; have f2 := k2.frozen; have l2 := k2.lt; have y3 := k3.cell; have f3 := k3.frozen; have l3 := k3.lt; replace hF := hid hF; clear hE k2 k3 hm3 hb3)
  all_goals
    obtain ⟨F1, F2, F3⟩ := hF.out _ _ rfl
    obtain ⟨WF, hWF⟩ : ∃ WF, sets (sets w3 (w.heap.size + 1 + 1) 0 (cpuL X.c)) (w.heap.size + 1 + 1 + 1) 0 (meL (.slice g1 X.m.rom.length h1) (.slice g2 X.m.ram.length h2) X.m) = WF := ⟨_, rfl⟩
    rw [hWF] at F1 F2 F3
    simp only [sets, cpuL, meL, Nat.zero_add, Nat.reduceAdd] at hWF
    rw [hWF]
    replace F3 := hid F3
    clear hWF y2 f2 l2 y3 f3 l3 x0 x1 y0 hF hL z0 zB hMd
    go_wp2
    refine bodyPost_ret (v := .tuple #[cpV X.c, memV (.slice g1 X.m.rom.length h1) (.slice g2 X.m.ram.length h2) X.m.page X.m.screen X.m.locked, cv, .int .i64 0]) (by simp [results, Tryz.results8, go_sem, F1, F2]) rfl ⟨_, _, rfl, F3.out⟩
theorem stp_spec (c : Cu) (v : Value) (M : Mem) (n : Int) (w : World) (h : MemR w v M) (hf : Fit M) :
    Calls Tryz.prog 8 #[cuV c, v, .int .i64 n] w fun e w' => ∃ u cv, e = .returned (.tuple #[cpV (stpX c M n).c, u, cv, .int .i64 (stpC c M n)]) ∧ Ans w w' (stpX c M n) u cv := by
  unfold stpX stpC
  cases hb0 : okC c && okM M
  · exact stp_spec_bad c v M n w h hf hb0
  · cases hn : inB n 0 255
    · exact stp_spec_rng c v M n w h hf hb0 hn
    · obtain ⟨N, rfl⟩ : ∃ N : Nat, n = N := ⟨n.toNat, by have := inB_bd hn; omega⟩
      have := stp_spec_ok c v M N w h hf hb0 (by have := inB_bd hn; omega)
      rw [if_pos rfl, if_pos rfl, if_pos rfl, if_pos rfl, Int.toNat_natCast]
      exact this
end Go.Proofs.YtgpmpfikeindfaaGreatDoor

/- What the program's banks answer: a bank of numbers, whether it is whole, what is shown. -/
namespace Go.Proofs.YtgpmpfikeindfaaGreatDoor
open Go.ChangeShapes Go.WideShapes Go.ChangeAt Go.RowKit
set_option linter.unusedVariables false
set_option linter.unusedSimpArgs false

theorem byte_impl (v : Int) (w : World) : Calls Tryz.prog 31 #[.int .i64 v] w fun e w' => e = .returned (.bool (inB v 0 255)) ∧ w' = w := by
  go_enter Tryz.func31, Tryz.ntmps31
  go_wp2
  all_goals go_ret
  all_goals exact ⟨ret_bool (by rw [Bool.eq_iff_iff]; simp [inB]; try omega), rfl⟩
theorem within_impl (n a b : Int) (w : World) : Calls Tryz.prog 33 #[.int .i64 n, .int .i64 a, .int .i64 b] w fun e w' => e = .returned (.bool (inB n a b)) ∧ w' = w := by
  go_enter Tryz.func33, Tryz.ntmps33
  go_wp2
  all_goals go_ret
  all_goals exact ⟨ret_bool (by rw [Bool.eq_iff_iff]; simp [inB]; try omega), rfl⟩
theorem screen_impl (n : Int) (w : World) : Calls Tryz.prog 58 #[.int .i64 n] w fun e w' => e = .returned (.bool (decide (n = 1 ∨ n = 3))) ∧ w' = w := by
  go_enter Tryz.func58, Tryz.ntmps58
  go_wp2
  all_goals go_ret
  all_goals exact ⟨ret_bool (by rw [Bool.eq_iff_iff]; simp; try omega), rfl⟩
theorem bankOf_impl (a : Option Addr) (n c : Nat) (w : World) : Calls Tryz.prog 56 #[.slice a n c] w fun e w' => e = .returned (.pointer (some ⟨w.heap.size, 0, none⟩)) ∧ w' = w.alloc (.cells #[.slice a n c] 106) := by
  go_enter Tryz.func56, Tryz.ntmps56
  go_wp2
  go_ret
  exact ⟨rfl, rfl⟩
set_option maxRecDepth 100000 in
theorem whole_impl (p : Nat) (a : Option Addr) (cap : Nat) (zs : List Int) (n : Nat) (w : World) (hp : w.cell? ⟨p, 0, none⟩ = some (.slice a zs.length cap)) (h : RowR w (.slice a zs.length cap) zs) (hl : zs.length ≤ 1000000000) (hn : n ≤ 1000000000) :
    Calls Tryz.prog 57 #[.pointer (some ⟨p, 0, none⟩), .int .i64 n] w fun e w' => e = .returned (.bool (bytesB zs n)) ∧ w' = w := by
  replace h := hid h.disj
  by_cases hne : zs.length = n
  · have hno : Hid (∀ k, k < zs.length → inB (zs.getD k 0) 0 255 = false → bytesB zs n = false) := fun k hk => bytes_no hk
    have hall : Hid ((∀ i, i < zs.length → inB (zs.getD i 0) 0 255 = true) → bytesB zs n = true) := fun h => by rw [bytes_all h]; exact decide_eq_true hne
    have hne2 : ((zs.length : Int) != (n : Int)) = false := by simp; omega
    replace hne := hid hne
    go_enter Tryz.func57, Tryz.ntmps57
    go_wp2
    go_loop [19] (fun i => ∃ k : Nat, k ≤ zs.length ∧ i = .int .i64 k ∧ ∀ j, j < k → inB (zs.getD j 0) 0 255 = true) (fun i => zs.length - (intOf i).toNat)
    case atStart => exact ⟨0, by omega, rfl, fun j hj => by omega⟩
    case round =>
      obtain ⟨k, hk, rfl, hj⟩ := hrel
      by_cases hlt : k < zs.length
      · obtain ⟨b, off, rfl, c1⟩ := row_some h.out hlt
        cases hb : inB (zs.getD k 0) 0 255
        · have hE := hid (hno.out k hlt hb)
          clear h hj hno hall
          generalize zs.getD k 0 = z at *
          go_wp2_with (go_at_call 31; refine (byte_impl _ _).mono ?_; rintro e w' ⟨rfl, rfl⟩; rw [hb])
          go_ret
          exact ⟨ret_bool hE.out.symm, rfl⟩
        · have hj2 : Hid (∀ j, j < k + 1 → inB (zs.getD j 0) 0 255 = true) := fun j hj1 => by
            by_cases e : j = k
            · rw [e]; exact hb
            · exact hj j (by omega)
          clear h hj hno hall
          generalize zs.getD k 0 = z at *
          go_wp2_with (go_at_call 31; refine (byte_impl _ _).mono ?_; rintro e w' ⟨rfl, rfl⟩; rw [hb])
          go_round
          case rel => exact ⟨k + 1, by omega, by go_num, hj2.out⟩
          case measure => simp [intOf]; omega
      · obtain rfl : k = zs.length := by omega
        have hE := hid (hall.out hj)
        clear hj h hno hall
        go_wp2
        go_ret
        exact ⟨ret_bool hE.out.symm, rfl⟩
  · have e : bytesB zs n = false := by unfold bytesB; rw [decide_eq_false hne, Bool.and_false]
    have hne2 : ((zs.length : Int) != (n : Int)) = true := by simp; omega
    rw [e]
    clear e hne
    go_enter Tryz.func57, Tryz.ntmps57
    go_wp2
    go_ret
    exact ⟨rfl, rfl⟩
theorem banks_impl (a1 a2 : Option Addr) (n1 p1 n2 p2 : Nat) (pg sc : Int) (l : Bool) (w : World) :
    Calls Tryz.prog 60 #[memV (.slice a1 n1 p1) (.slice a2 n2 p2) pg sc l] w fun e w' => e = .returned (.agg #[.int .i64 (-1), .int .i64 1, .int .i64 2, .int .i64 pg]) ∧ Below w.heap.size w w' := by
  go_enter Tryz.func60, Tryz.ntmps60
  go_wp2
  refine bodyPost_ret (v := .agg #[.int .i64 (-1), .int .i64 1, .int .i64 2, .int .i64 pg]) (by simp [results, Tryz.results60, go_sem]) rfl ⟨rfl, ?_⟩
  exact ((Below.refl _ _).alloc (Nat.le_refl _) _).alloc (by simp) _
end Go.Proofs.YtgpmpfikeindfaaGreatDoor

/- What the program answers whether a memory is right, and what is at fault with what is asked of one. -/
namespace Go.Proofs.YtgpmpfikeindfaaGreatDoor
open Go.ChangeShapes Go.WideShapes Go.ChangeAt Go.RowKit
set_option linter.unusedVariables false
set_option linter.unusedSimpArgs false

theorem cell_new1 (W : World) (v : Value) (t : TypeId) : (W.alloc (.cells #[v] t)).cell? ⟨W.heap.size, 0, none⟩ = some v := (Blk.new W #[v] t).cell 0
theorem cell_new2 (W : World) (o : Obj) (v : Value) (t : TypeId) : ((W.alloc o).alloc (.cells #[v] t)).cell? ⟨W.heap.size + 1, 0, none⟩ = some v := by
  have := cell_new1 (W.alloc o) v t
  rw [World.size_alloc] at this
  exact this
set_option maxRecDepth 100000 in
set_option maxHeartbeats 1000000 in
theorem ok_impl (v : Value) (M : Mem) (w : World) (h : MemR w v M) (hl : M.rom.length ≤ 1000000000) (hm : M.ram.length ≤ 1000000000) (hr : ∀ i, i < M.ram.length → (M.ram.getD i []).length ≤ 1000000000) :
    Calls Tryz.prog 29 #[v] w fun e w' => e = .returned (.bool (okM M)) ∧ Below w.heap.size w w' := by
  obtain ⟨a1, p1, a2, p2, rfl, h1, h2⟩ := h.form
  have hB : Hid (∀ o o', Below w.heap.size w ((w.alloc o).alloc o')) := fun o o' => ((Below.refl _ _).alloc (Nat.le_refl _) _).alloc (by simp) _
  have k1 : Hid (∀ o o', RowR ((w.alloc o).alloc o') (.slice a1 M.rom.length p1) M.rom) := fun o o' => h1.below (hB.out o o')
  have k2 : Hid (∀ W', Below w.heap.size w W' → RowsR W' (.slice a2 M.ram.length p2) M.ram) := fun W' hb => h2.below hb
  replace hr := hid hr
  clear h h1 h2
  cases hb1 : bytesB M.rom 64
  · rw [okM_false (.inl hb1)]
    go_enter Tryz.func29, Tryz.ntmps29
    go_wp2_with (first | (go_at_call 56; refine (bankOf_impl _ _ _ _).mono ?_; rintro e w' ⟨rfl, rfl⟩) | (go_at_call 57; refine (whole_impl _ _ _ M.rom 64 _ (cell_new2 _ _ _ _) (k1.out _ _) hl (by omega)).mono ?_; rintro e w' ⟨rfl, rfl⟩; rw [hb1]))
    go_ret
    exact ⟨rfl, hB.out _ _⟩
  · by_cases h4 : M.ram.length = 4
    · have h4' : ((M.ram.length : Int) != 4) = false := by simp; omega
      have hno : Hid (∀ k, k < 4 → bytesB (M.ram.getD k []) 64 = false → okM M = false) := fun k hk => ram_no (by omega)
      have hend : Hid ((∀ i, i < 4 → bytesB (M.ram.getD i []) 64 = true) → okM M = (inB M.page 0 3 && decide (M.screen = 1 ∨ M.screen = 3))) := fun hj => by
        cases hp : inB M.page 0 3
        · rw [okM_false (.inr (.inr (.inl hp))), Bool.false_and]
        · by_cases hs : M.screen = 1 ∨ M.screen = 3
          · rw [ok_all hb1 h4 hp hs hj, decide_eq_true hs]; rfl
          · rw [okM_false (.inr (.inr (.inr hs))), decide_eq_false hs]; rfl
      have S : Hid (∀ o o', Blk ((w.alloc (.cells #[.slice a1 M.rom.length p1, .slice a2 M.ram.length p2, .int .i64 M.page, .int .i64 M.screen, .bool M.locked] o)).alloc o') w.heap.size #[.slice a1 M.rom.length p1, .slice a2 M.ram.length p2, .int .i64 M.page, .int .i64 M.screen, .bool M.locked]) := fun o o' => (Blk.new w _ o).alloc o'
      have h4n := hid h4
      clear h4
      go_enter Tryz.func29, Tryz.ntmps29
      go_wp2_with (first | (go_at_call 56; refine (bankOf_impl _ _ _ _).mono ?_; rintro e w' ⟨rfl, rfl⟩) | (go_at_call 57; refine (whole_impl _ _ _ M.rom 64 _ (cell_new2 _ _ _ _) (k1.out _ _) hl (by omega)).mono ?_; rintro e w' ⟨rfl, rfl⟩; rw [hb1]))
      go_loopw [19] (fun i wr => ∃ k : Nat, k ≤ 4 ∧ i = .int .i64 k ∧ (∀ j, j < k → bytesB (M.ram.getD j []) 64 = true) ∧ Below w.heap.size w wr ∧ Blk wr w.heap.size #[.slice a1 M.rom.length p1, .slice a2 M.ram.length p2, .int .i64 M.page, .int .i64 M.screen, .bool M.locked]) (fun i _ => 4 - (intOf i).toNat)
      case atStart => exact ⟨0, by omega, rfl, fun j hj => by omega, hB.out _ _, S.out _ _⟩
      case round =>
        obtain ⟨k, hk, rfl, hj, hb, q⟩ := hrel
        replace hb := hid hb
        clear S
        by_cases hlt : k < 4
        · obtain ⟨b, off, a3, p3, rfl, c1, hbl, r3⟩ := rows_at (k2.out _ hb.out) (k := k) (by rw [h4n.out]; exact hlt)
          have hrl := hr.out k (by rw [h4n.out]; exact hlt)
          have hr3 : Hid (∀ o, RowR (wr.alloc o) (.slice a3 (M.ram.getD k []).length p3) (M.ram.getD k [])) := fun o => r3.below ((Below.refl _ _).alloc (Nat.le_refl _) _)
          have hkk : (k : Int) < (M.ram.length : Int) := by rw [h4n.out]; omega
          have hB2 : Hid (∀ o, Below w.heap.size w (wr.alloc o)) := fun o => hb.out.alloc hb.out.size _
          have hq2 := hid (fun o : Obj => q.alloc o)
          clear q r3
          cases hbb : bytesB (M.ram.getD k []) 64
          · have hE := hid (hno.out k hlt hbb)
            clear hj hno hend
            generalize M.ram.getD k [] = z at *
            go_wp2_with (first | (go_at_call 56; refine (bankOf_impl _ _ _ _).mono ?_; rintro e w' ⟨rfl, rfl⟩) | (go_at_call 57; refine (whole_impl _ _ _ z 64 _ (cell_new1 _ _ _) (hr3.out _) hrl (by omega)).mono ?_; rintro e w' ⟨rfl, rfl⟩; rw [hbb]))
            go_ret
            exact ⟨ret_bool hE.out.symm, hB2.out _⟩
          · have hj2 : Hid (∀ j, j < k + 1 → bytesB (M.ram.getD j []) 64 = true) := fun j hj1 => by
              by_cases e : j = k
              · rw [e]; exact hbb
              · exact hj j (by omega)
            clear hj hno hend
            generalize M.ram.getD k [] = z at *
            go_wp2_with (first | (go_at_call 56; refine (bankOf_impl _ _ _ _).mono ?_; rintro e w' ⟨rfl, rfl⟩) | (go_at_call 57; refine (whole_impl _ _ _ z 64 _ (cell_new1 _ _ _) (hr3.out _) hrl (by omega)).mono ?_; rintro e w' ⟨rfl, rfl⟩; rw [hbb]))
            go_roundw
            case rel => exact ⟨k + 1, by omega, by go_num, hj2.out, hB2.out _, hq2.out _⟩
            case measure => simp [intOf]; omega
        · obtain rfl : k = 4 := by omega
          have hE := hid (hend.out hj)
          have hkk : ¬ ((4 : Int) < (M.ram.length : Int)) := by rw [h4n.out]; omega
          have x := q.cell
          clear hj hno hend q
          cases hp : inB M.page 0 3
          · go_wp2_with (go_at_call 33; refine (within_impl _ _ _ _).mono ?_; rintro e w' ⟨rfl, rfl⟩; rw [hp])
            go_ret
            exact ⟨ret_bool (by rw [hE.out, hp]; rfl), hb.out⟩
          · go_wp2_with (first | (go_at_call 33; refine (within_impl _ _ _ _).mono ?_; rintro e w' ⟨rfl, rfl⟩; rw [hp]) | (go_at_call 58; refine (screen_impl _ _).mono ?_; rintro e w' ⟨rfl, rfl⟩))
            go_ret
            exact ⟨ret_bool (by rw [hE.out, hp, Bool.true_and, Bool.eq_iff_iff]; simp), hb.out⟩
    · rw [okM_false (.inr (.inl h4))]
      have h4' : ((M.ram.length : Int) != 4) = true := by simp; omega
      clear h4
      go_enter Tryz.func29, Tryz.ntmps29
      go_wp2_with (first | (go_at_call 56; refine (bankOf_impl _ _ _ _).mono ?_; rintro e w' ⟨rfl, rfl⟩) | (go_at_call 57; refine (whole_impl _ _ _ M.rom 64 _ (cell_new2 _ _ _ _) (k1.out _ _) hl (by omega)).mono ?_; rintro e w' ⟨rfl, rfl⟩; rw [hb1]))
      go_ret
      exact ⟨rfl, hB.out _ _⟩
/-- the code that these numbers beside a memory get -/
def faultM (M : Mem) (zs : List Int) : Int := if okM M = true then (if zs.all (fun z => inB z 0 255) = true then 0 else 4) else 1
theorem fault_one (M : Mem) (a : Int) : faultM M [a] = askM M a := by
  unfold faultM askM
  simp
theorem fault_no {M : Mem} {zs : List Int} {k : Nat} (ho : okM M = true) (hk : k < zs.length) (h : inB (zs.getD k 0) 0 255 = false) : faultM M zs = 4 := by
  unfold faultM
  rw [if_pos ho, if_neg]
  rw [Bool.not_eq_true, List.all_eq_false]
  refine ⟨zs[k], List.getElem_mem hk, ?_⟩
  rw [List.getD_eq_getElem?_getD, List.getElem?_eq_getElem hk] at h
  simpa using h
theorem fault_all {M : Mem} {zs : List Int} (ho : okM M = true) (h : ∀ i, i < zs.length → inB (zs.getD i 0) 0 255 = true) : faultM M zs = 0 := by
  unfold faultM
  rw [if_pos ho, if_pos]
  rw [List.all_eq_true]
  intro z hz
  obtain ⟨i, hi, rfl⟩ := List.mem_iff_getElem.1 hz
  have := h i hi
  simpa [List.getD_eq_getElem?_getD, List.getElem?_eq_getElem hi] using this
set_option maxRecDepth 100000 in
theorem fault_impl (v : Value) (M : Mem) (a : Option Addr) (cap : Nat) (zs : List Int) (w : World) (h : MemR w v M) (hf : Fit M) (hz : RowR w (.slice a zs.length cap) zs) (hl : zs.length ≤ 1000000000) :
    Calls Tryz.prog 34 #[v, .slice a zs.length cap] w fun e w' => e = .returned (.int .i64 (faultM M zs)) ∧ Below w.heap.size w w' := by
  obtain ⟨a1, p1, a2, p2, rfl, _, _⟩ := h.form
  have hB : Hid (∀ o, Below w.heap.size w (w.alloc o)) := fun o => (Below.refl _ _).alloc (Nat.le_refl _) _
  have hM : Hid (∀ o, MemR (w.alloc o) (memV (.slice a1 M.rom.length p1) (.slice a2 M.ram.length p2) M.page M.screen M.locked) M) := fun o => h.below (hB.out o)
  have hZ : Hid (∀ W', Below w.heap.size w W' → RowR W' (.slice a zs.length cap) zs) := fun W' hb => hz.below hb
  have hF : Hid (Fit M) := hf
  clear h hf hz
  cases hk : okM M
  · have e : faultM M zs = 1 := by unfold faultM; rw [hk]; rfl
    rw [e]
    clear e
    go_enter Tryz.func34, Tryz.ntmps34
    go_wp2_with fail
    refine (ok_impl _ M _ (hM.out _) hF.out.1 hF.out.2.1 hF.out.2.2).mono ?_
    rintro e w1 ⟨rfl, hb1⟩
    rw [hk]
    replace hb1 := hid hb1
    go_wp2
    go_ret
    exact ⟨rfl, new_trans (hB.out _) hb1.out⟩
  · have hno : Hid (∀ k, k < zs.length → inB (zs.getD k 0) 0 255 = false → faultM M zs = 4) := fun k hkk => fault_no hk hkk
    have hall : Hid ((∀ i, i < zs.length → inB (zs.getD i 0) 0 255 = true) → faultM M zs = 0) := fault_all hk
    go_enter Tryz.func34, Tryz.ntmps34
    go_wp2_with fail
    refine (ok_impl _ M _ (hM.out _) hF.out.1 hF.out.2.1 hF.out.2.2).mono ?_
    rintro e w1 ⟨rfl, hb1⟩
    rw [hk]
    have hb2 := hid (new_trans (hB.out _) hb1)
    have hz1 := hid (hZ.out _ hb2.out).disj
    clear hb1 hZ hM
    go_wp2
    go_loop [12] (fun i => ∃ k : Nat, k ≤ zs.length ∧ i = .int .i64 k ∧ ∀ j, j < k → inB (zs.getD j 0) 0 255 = true) (fun i => zs.length - (intOf i).toNat)
    case atStart => exact ⟨0, by omega, rfl, fun j hj => by omega⟩
    case round =>
      obtain ⟨k, hkl, rfl, hj⟩ := hrel
      by_cases hlt : k < zs.length
      · obtain ⟨b, off, rfl, c1⟩ := row_some hz1.out hlt
        cases hb : inB (zs.getD k 0) 0 255
        · have hE := hid (hno.out k hlt hb)
          clear hz1 hj hno hall
          generalize zs.getD k 0 = z at *
          go_wp2_with (go_at_call 31; refine (byte_impl _ _).mono ?_; rintro e w' ⟨rfl, rfl⟩; rw [hb])
          go_ret
          exact ⟨ret_int hE.out.symm, hb2.out⟩
        · have hj2 : Hid (∀ j, j < k + 1 → inB (zs.getD j 0) 0 255 = true) := fun j hj1 => by
            by_cases e : j = k
            · rw [e]; exact hb
            · exact hj j (by omega)
          clear hz1 hj hno hall
          generalize zs.getD k 0 = z at *
          go_wp2_with (go_at_call 31; refine (byte_impl _ _).mono ?_; rintro e w' ⟨rfl, rfl⟩; rw [hb])
          go_round
          case rel => exact ⟨k + 1, by omega, by go_num, hj2.out⟩
          case measure => simp [intOf]; omega
      · obtain rfl : k = zs.length := by omega
        have hE := hid (hall.out hj)
        clear hj hz1 hno hall
        go_wp2
        go_ret
        exact ⟨ret_int hE.out.symm, hb2.out⟩
end Go.Proofs.YtgpmpfikeindfaaGreatDoor
