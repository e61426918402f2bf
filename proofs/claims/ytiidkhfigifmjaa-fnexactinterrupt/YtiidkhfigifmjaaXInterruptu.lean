/- For every processor and memory the law FnExactInterrupt returns true: impl.Interrupt answers as spec.Interrupt, in memory of its own, and changes nothing. -/
import Derived.Test.YtiidkhfigifmjaaRows
import Derived.Test.YtiidkhfigifmjaaJbu
import Derived.Test.YtiidkhfigifmjaaJcu
import Derived.Test.YtiidkhfigifmjaaJlu
import Derived.Test.YtiidkhfigifmjaaU47
import Derived.Test.YtiidkhfigifmjaaGi5u
import Derived.Test.YtiidkhfigifmjaaGi7u
import Derived.Test.YtiidkhfigifmjaaGi28u
import Derived.Test.YtiidkhfigifmjaaMeu
import Derived.Test.YtiidkhfigifmjaaU51
import Derived.Test.YtiidkhfigifmjaaClu
import Derived.Test.YtiidkhfigifmjaaU31
import Derived.WalkKit
import Derived.ProofKit
import Derived.OpenShut
import Derived.ShutString
import Derived.ChangeOld
import Derived.Below
import Derived.Lib.SmallJoins
namespace Go.Proofs.Ytiidkhfigifmjaa.fnExactInterrupt
open Go.ChangeShapes Go.WideShapes Go.ChangeAt Go.RowKit Go.Joins
open Go.ChangeMaps (open_string shut_string)
set_option linter.unusedVariables false

theorem own : ownKnob Try.prog.godebug = none := by kernel_rfl
theorem laidOut : laidOutB Try.prog = true := by kernel_rfl

set_option maxRecDepth 100000 in
set_option maxHeartbeats 8000000 in
theorem walk (c0 : Cu) (v1 : Value) (M0 : Mem) (w : World) (m0 : MemR w v1 M0) (b0 : Big M0) :
    Calls Try.prog 4 #[cuV c0, v1] w fun e w' => e = .returned (.bool true) ∧ Below w.heap.size w w' := by
  obtain ⟨s1, t1, s2, t2, rfl, _, _⟩ := m0.form
  obtain ⟨X, hX⟩ : ∃ X, intX c0 M0 = X := ⟨_, rfl⟩
  obtain ⟨C8, hC8⟩ : ∃ C8, intC c0 M0 = C8 := ⟨_, rfl⟩
  have hsm : Small M0 → Small X.m := fun h => by rw [← hX]; exact int_small h
  have hln : X.cy.length ≤ 1000 := by rw [← hX]; exact int_len c0 M0
  have hSp : Hid (∀ W' v, Fit M0 → MemR W' v M0 → Calls _ _ _ W' _) := fun W' v hf h => int_spec c0 v M0 W' h hf
  have hIm : Hid (∀ W' v, Fit M0 → MemR W' v M0 → Calls _ _ _ W' _) := fun W' v hf h => int_impl c0 v M0 W' h hf
  rw [hX, hC8] at hSp hIm
  replace hsm := hid hsm
  clear hX hC8
  have S0 := hid (((StF.nil w).box (cuA c0) 40).box #[.slice s1 M0.rom.length t1, .slice s2 M0.ram.length t2, .int .i64 M0.page, .int .i64 M0.screen, .bool M0.locked] 41)
  rw [World.size_alloc] at S0
  have hA : Hid (∀ W', Below w.heap.size w W' → MemR W' (memV (.slice s1 M0.rom.length t1) (.slice s2 M0.ram.length t2) M0.page M0.screen M0.locked) M0) := fun W' hb => m0.below hb
  have hbig : Hid (Big M0) := b0
  clear m0 b0
  have x0 := (S0.out.at 1 rfl).cell
  have x1 := (S0.out.at 0 rfl).cell
  go_enter Try.func4, Try.ntmps4
  go_upto_region 1 with fail
  obtain ⟨V, hV⟩ : ∃ V, ((w.alloc (.cells (cuA c0) 40)).alloc (.cells #[.slice s1 M0.rom.length t1, .slice s2 M0.ram.length t2, .int .i64 M0.page, .int .i64 M0.screen, .bool M0.locked] 41)) = V := ⟨_, rfl⟩
  rw [hV] at S0 x0 x1 ⊢
  clear hV
  go_wp2_with fail
  refine (szm _ M0 _ _ (hA.out _ S0.out.bel) hbig.out (by omega) (by omega)).mono ?_
  rintro e w1 ⟨R, rfl, hR, hb1⟩
  have S1 := hid (S0.out.below hb1)
  clear x0 x1 S0 hb1
  have x0 := (S1.out.at 1 rfl).cell
  have x1 := (S1.out.at 0 rfl).cell
  rcases hR with hR | ⟨hR, hR2⟩
  · go_wp2
    go_ret
    exact ⟨rfl, S1.out.bel⟩
  have hs : Hid (Small M0) := by
    unfold Hid Small
    refine ⟨by omega, by omega, by omega⟩
  have hf : Hid (Fit M0) := ⟨by have := hs.out.1; omega, by have := hs.out.2.1; omega, hs.out.rows⟩
  have hs8 : Hid (Small X.m) := hsm.out hs.out
  have hln2 : X.cy.length ≤ 1000000 := by omega
  have h3l : 3 * X.cy.length ≤ 3000 := by omega
  clear hR2 hbig hsm
  go_upto_region 5 with fail
  clear x0 x1
  refine gi5_reg _ w1 _ X C8 c0 M0 s1 s2 t1 t2 w.heap.size (w.heap.size + 1) rfl rfl (S1.out.at 1 rfl) (S1.out.at 0 rfl) (toc c0) (fun W' hb => (tom _ M0 W' (hA.out _ (new_trans S1.out.bel hb)) hs.out).mono (fun e w' ⟨u, he, hm, hb⟩ => ⟨u, he, hm.reads, hb⟩)) (fun W' v hb hm => hSp.out W' v hf.out hm) (Nat.le_of_ble_eq_true rfl) ?_
  intro w3 u2 cv8 g1 g2 h1 h2 lo8 hi8 b6 b7 hWI
  have S2 := hid (hWI.stf S1.out)
  clear hWI S1
  simp only [putsA, Act.put, List.setIfInBounds_toArray, List.set_cons_zero, List.set_cons_succ]
  have x0 := (S2.out.at 5 rfl).cell
  have x1 := (S2.out.at 4 rfl).cell
  go_wp2_with fail
  refine (tom _ M0 _ (hA.out _ S2.out.bel) hs.out).mono ?_
  rintro e w4 ⟨u4, rfl, hm4, hb4⟩
  have S3 := S2.out.mem hb4 hm4
  obtain ⟨i1, j1, i2, j2, rfl, _, _⟩ := hm4.reads.form
  have S4 := hid (S3.box #[.slice i1 M0.rom.length j1, .slice i2 M0.ram.length j2, .int .i64 M0.page, .int .i64 M0.screen, .bool M0.locked] 30)
  obtain ⟨b10, hb10⟩ : ∃ b, w4.heap.size = b := ⟨_, rfl⟩
  obtain ⟨l10, hl10⟩ : ∃ b, w3.heap.size = b := ⟨_, rfl⟩
  obtain ⟨W4, hW4⟩ : ∃ b, w4.alloc (.cells #[.slice i1 M0.rom.length j1, .slice i2 M0.ram.length j2, .int .i64 M0.page, .int .i64 M0.screen, .bool M0.locked] 30) = b := ⟨_, rfl⟩
  rw [hW4, hb10, hl10] at S4
  clear hm4 hb4 S3 S2 x0 x1 hl10
  go_upto_region 7 with fail
  (try rw [hb10, hW4])
  clear hb10 hW4
  have x0 := (S4.out.at 7 rfl).cell
  have x1 := (S4.out.at 6 rfl).cell
  have hmr : Hid (∀ W', Below W4.heap.size W4 W' → MemR W' (memV (.slice i1 M0.rom.length j1) (.slice i2 M0.ram.length j2) M0.page M0.screen M0.locked) M0) := fun W' hb => MemO.reads ((S4.out.below hb).at 1 rfl)
  clear x0 x1
  refine gi7_reg _ W4 _ X C8 c0 M0 i1 i2 j1 j2 w.heap.size b10 rfl rfl (S4.out.at 7 rfl) (S4.out.at 0 rfl) (toc c0) hmr.out (fun W' v hb hm => hIm.out W' v hf.out hm) (Nat.le_of_ble_eq_true rfl) ?_
  intro w5 u5 cv11 k1 k2 l1 l2 lo11 hi11 b11 b12 hWI
  have S5 := hid (hWI.stf S4.out)
  clear hWI S4 hmr
  simp only [putsA, Act.put, List.setIfInBounds_toArray, List.set_cons_zero, List.set_cons_succ]
  have x2 := (S5.out.at 2 rfl).cell
  have x3 := (S5.out.at 3 rfl).cell
  have x4 := (S5.out.at 4 rfl).cell
  have x8 := (S5.out.at 8 rfl).cell
  have x9 := (S5.out.at 9 rfl).cell
  have x10 := (S5.out.at 10 rfl).cell
  have x11 := (S5.out.at 11 rfl).cell
  go_wp2_with fail
  refine (eqc_yes ⟨X.c.b, X.c.c, X.c.d, X.c.e, X.c.h, X.c.l, 0, X.c.a, X.c.f, X.c.sp, X.c.pc, X.c.iff, X.c.ei, X.c.halt⟩ _).mono ?_
  rintro e wa6 ⟨rfl, hba⟩
  have Sa6 := hid (S5.out.below hba)
  clear hba x2 x3 x4 x8 x9 x10 x11 S5
  have x2 := (Sa6.out.at 2 rfl).cell
  have x3 := (Sa6.out.at 3 rfl).cell
  have x4 := (Sa6.out.at 4 rfl).cell
  have x8 := (Sa6.out.at 8 rfl).cell
  have x9 := (Sa6.out.at 9 rfl).cell
  have x10 := (Sa6.out.at 10 rfl).cell
  have x11 := (Sa6.out.at 11 rfl).cell
  go_wp2_with fail
  refine (eqm_yes _ _ X.m _ (MemO.reads (Sa6.out.at 1 rfl)) (MemO.reads (Sa6.out.at 7 rfl)) hs8.out).mono ?_
  rintro e wb6 ⟨rfl, hba⟩
  have Sb6 := hid (Sa6.out.below hba)
  clear hba x2 x3 x4 x8 x9 x10 x11 Sa6
  have x2 := (Sb6.out.at 2 rfl).cell
  have x3 := (Sb6.out.at 3 rfl).cell
  have x4 := (Sb6.out.at 4 rfl).cell
  have x8 := (Sb6.out.at 8 rfl).cell
  have x9 := (Sb6.out.at 9 rfl).cell
  have x10 := (Sb6.out.at 10 rfl).cell
  have x11 := (Sb6.out.at 11 rfl).cell
  go_wp2_with fail
  refine (eqcs_yes _ _ X.cy _ (Sb6.out.at 0 rfl) (Sb6.out.at 6 rfl) hln2).mono ?_
  rintro e wc6 ⟨rfl, hba⟩
  have Sc6 := hid (Sb6.out.below hba)
  clear hba x2 x3 x4 x8 x9 x10 x11 Sb6
  have x2 := (Sc6.out.at 2 rfl).cell
  have x3 := (Sc6.out.at 3 rfl).cell
  have x4 := (Sc6.out.at 4 rfl).cell
  have x8 := (Sc6.out.at 8 rfl).cell
  have x9 := (Sc6.out.at 9 rfl).cell
  have x10 := (Sc6.out.at 10 rfl).cell
  have x11 := (Sc6.out.at 11 rfl).cell
  go_upto_region 10 with fail
  have hD6 : Hid (Below wc6.heap.size wc6 wc6.drew) := (Below.refl _ _).drew
  go_region_with (first | (go_at_call 14; refine (tom _ M0 _ (hA.out _ (new_trans Sc6.out.bel hD6.out)) hs.out).mono ?_; rintro e w7 ⟨u7, rfl, hm7, hb7⟩; have m7 := hid hm7.reads; obtain ⟨q1, r1, q2, r2, rfl, _, _⟩ := hm7.reads.form; have S7 := hid (Sc6.out.below (new_trans hD6.out hb7)); have z4 := (S7.out.at 4 rfl).cell; clear hm7 hb7) | (go_at_call 16; refine (eqm_yes _ _ M0 _ (MemO.reads (S7.out.at 5 rfl)) m7.out hs.out).mono ?_; rintro e w8 ⟨rfl, hb8⟩; replace hb8 := hid hb8))
  all_goals
    have S8 := hid (S7.out.below hb8.out)
    clear hb8 S7 Sc6 x2 x3 x4 x8 x9 x10 x11 z4 m7 hD6
    have x2 := (S8.out.at 2 rfl).cell
    have x3 := (S8.out.at 3 rfl).cell
    have x4 := (S8.out.at 4 rfl).cell
    have x8 := (S8.out.at 8 rfl).cell
    have x9 := (S8.out.at 9 rfl).cell
    have x10 := (S8.out.at 10 rfl).cell
    have x11 := (S8.out.at 11 rfl).cell
    go_wp2_with fail
    refine (markm' _ M0 1 _ _ _ (S8.out.sts.has 5 rfl) hs.out (by omega) (by omega)).mono ?_
    rintro e w9 ⟨rfl, hm9, ht9⟩
    have S9 := hid (S8.out.touch 5 rfl ht9 hm9)
    clear hm9 ht9 S8 x2 x3 x4 x8 x9 x10 x11
    have x2 := (S9.out.at 2 rfl).cell
    have x3 := (S9.out.at 3 rfl).cell
    have x4 := (S9.out.at 4 rfl).cell
    have x8 := (S9.out.at 8 rfl).cell
    have x9 := (S9.out.at 9 rfl).cell
    have x10 := (S9.out.at 10 rfl).cell
    have x11 := (S9.out.at 11 rfl).cell
    obtain ⟨kk, hkk⟩ : ∃ kk : Int, 1 + (cntM M0 : Nat) = kk := ⟨_, rfl⟩
    rw [hkk]
    have hk0 : ¬ kk < 0 := by omega
    clear hkk
    go_wp2_with fail
    refine (eqc_yes ⟨X.c.b, X.c.c, X.c.d, X.c.e, X.c.h, X.c.l, 0, X.c.a, X.c.f, X.c.sp, X.c.pc, X.c.iff, X.c.ei, X.c.halt⟩ _).mono ?_
    rintro e wa10 ⟨rfl, hba⟩
    have Sa10 := hid (S9.out.below hba)
    clear hba x2 x3 x4 x8 x9 x10 x11 S9
    have x2 := (Sa10.out.at 2 rfl).cell
    have x3 := (Sa10.out.at 3 rfl).cell
    have x4 := (Sa10.out.at 4 rfl).cell
    have x8 := (Sa10.out.at 8 rfl).cell
    have x9 := (Sa10.out.at 9 rfl).cell
    have x10 := (Sa10.out.at 10 rfl).cell
    have x11 := (Sa10.out.at 11 rfl).cell
    go_wp2_with fail
    refine (eqm_yes _ _ X.m _ (MemO.reads (Sa10.out.at 1 rfl)) (MemO.reads (Sa10.out.at 7 rfl)) hs8.out).mono ?_
    rintro e wb10 ⟨rfl, hba⟩
    have Sb10 := hid (Sa10.out.below hba)
    clear hba x2 x3 x4 x8 x9 x10 x11 Sa10
    have x2 := (Sb10.out.at 2 rfl).cell
    have x3 := (Sb10.out.at 3 rfl).cell
    have x4 := (Sb10.out.at 4 rfl).cell
    have x8 := (Sb10.out.at 8 rfl).cell
    have x9 := (Sb10.out.at 9 rfl).cell
    have x10 := (Sb10.out.at 10 rfl).cell
    have x11 := (Sb10.out.at 11 rfl).cell
    go_wp2_with fail
    refine (eqcs_yes _ _ X.cy _ (Sb10.out.at 0 rfl) (Sb10.out.at 6 rfl) hln2).mono ?_
    rintro e wc10 ⟨rfl, hba⟩
    have Sc10 := hid (Sb10.out.below hba)
    clear hba x2 x3 x4 x8 x9 x10 x11 Sb10
    have x2 := (Sc10.out.at 2 rfl).cell
    have x3 := (Sc10.out.at 3 rfl).cell
    have x4 := (Sc10.out.at 4 rfl).cell
    have x8 := (Sc10.out.at 8 rfl).cell
    have x9 := (Sc10.out.at 9 rfl).cell
    have x10 := (Sc10.out.at 10 rfl).cell
    have x11 := (Sc10.out.at 11 rfl).cell
    go_wp2_with fail
    refine (markm' _ X.m 1 _ _ _ (Sc10.out.sts.has 1 rfl) hs8.out (by omega) (by omega)).mono ?_
    rintro e w11 ⟨rfl, hm11, ht11⟩
    have S11 := hid (Sc10.out.touch 1 rfl ht11 hm11)
    clear hm11 ht11 Sc10 x2 x3 x4 x8 x9 x10 x11
    have x2 := (S11.out.at 2 rfl).cell
    have x3 := (S11.out.at 3 rfl).cell
    have x4 := (S11.out.at 4 rfl).cell
    have x8 := (S11.out.at 8 rfl).cell
    have x9 := (S11.out.at 9 rfl).cell
    have x10 := (S11.out.at 10 rfl).cell
    have x11 := (S11.out.at 11 rfl).cell
    obtain ⟨k2n, hk2⟩ : ∃ k2n : Nat, (1 : Int) + (cntM X.m : Nat) = (k2n : Int) := ⟨1 + cntM X.m, by omega⟩
    have hk2b : k2n ≤ 5000000 := by
      have h1 := hs8.out.1
      have h3 := hs8.out.2.2
      unfold cntM at hk2
      omega
    rw [hk2]
    replace hk2 := hid hk2
    go_wp2_with fail
    refine (markc _ k2n X.cy _ (S11.out.at 0 rfl) hln2 (by omega)).mono ?_
    rintro e w12 ⟨rfl, hm12, hg12⟩
    have S12 := hid (S11.out.mark 0 rfl hm12 hg12)
    clear hm12 hg12 S11 x2 x3 x4 x8 x9 x10 x11
    have x2 := (S12.out.at 2 rfl).cell
    have x3 := (S12.out.at 3 rfl).cell
    have x4 := (S12.out.at 4 rfl).cell
    have x8 := (S12.out.at 8 rfl).cell
    have x9 := (S12.out.at 9 rfl).cell
    have x10 := (S12.out.at 10 rfl).cell
    have x11 := (S12.out.at 11 rfl).cell
    obtain ⟨k3, hk3⟩ : ∃ k3 : Int, ((k2n + 3 * X.cy.length : Nat) : Int) = k3 := ⟨_, rfl⟩
    rw [hk3]
    have hk3b : ¬ k3 < 0 := by omega
    have hk2c : ¬ (k2n : Int) < 0 := by omega
    replace hk3 := hid hk3
    go_wp2_with fail
    refine (heldm _ X.m 1 _ (MemO.reads (S12.out.at 1 rfl)) hs8.out (by omega) (by omega)).mono ?_
    rintro e w13 ⟨rfl, hb13⟩
    rw [hk2.out]
    have S13 := hid (S12.out.below hb13)
    clear hb13 S12 x2 x3 x4 x8 x9 x10 x11
    have x2 := (S13.out.at 2 rfl).cell
    have x3 := (S13.out.at 3 rfl).cell
    have x4 := (S13.out.at 4 rfl).cell
    have x8 := (S13.out.at 8 rfl).cell
    have x9 := (S13.out.at 9 rfl).cell
    have x10 := (S13.out.at 10 rfl).cell
    have x11 := (S13.out.at 11 rfl).cell
    go_wp2_with fail
    refine (heldc _ k2n X.cy.length _ (S13.out.at 0 rfl) hln2 (by omega)).mono ?_
    rintro e w14 ⟨rfl, hw14⟩
    obtain rfl := hw14.symm
    rw [hk3.out]
    have hkk : (k3 != k3) = false := by simp
    go_upto_region 28 with fail
    clear x2 x3 x4 x8 x9 x10 x11
    refine gi28_reg _ w13 _ X C8 c0 M0 s1 s2 t1 t2 w.heap.size (w.heap.size + 1) rfl rfl (S13.out.at 11 rfl) (S13.out.at 10 rfl) (toc c0) (fun W' hb => (tom _ M0 W' (hA.out _ (new_trans S13.out.bel hb)) hs.out).mono (fun e w' ⟨u, he, hm, hb⟩ => ⟨u, he, hm.reads, hb⟩)) (fun W' v hb hm => hIm.out W' v hf.out hm) (Nat.le_of_ble_eq_true rfl) ?_
    intro w15 u15 cv15 o1 o2 p1 p2 lo15 hi15 b18 b19 hWI
    have S15 := hid (hWI.stf S13.out)
    clear hWI S13
    simp only [putsA, Act.put, List.setIfInBounds_toArray, List.set_cons_zero, List.set_cons_succ]
    have x2 := (S15.out.at 6 rfl).cell
    have x3 := (S15.out.at 7 rfl).cell
    have x4 := (S15.out.at 8 rfl).cell
    have x8 := (S15.out.at 12 rfl).cell
    have x9 := (S15.out.at 13 rfl).cell
    have x10 := (S15.out.at 14 rfl).cell
    have x11 := (S15.out.at 15 rfl).cell
    have x0 := (S15.out.at 2 rfl).cell
    have x1 := (S15.out.at 3 rfl).cell
    go_wp2_with fail
    refine (eqc_yes ⟨X.c.b, X.c.c, X.c.d, X.c.e, X.c.h, X.c.l, 0, X.c.a, X.c.f, X.c.sp, X.c.pc, X.c.iff, X.c.ei, X.c.halt⟩ _).mono ?_
    rintro e wa16 ⟨rfl, hba⟩
    have Sa16 := hid (S15.out.below hba)
    clear hba x2 x3 x4 x8 x9 x10 x11 S15 x0 x1
    have x2 := (Sa16.out.at 6 rfl).cell
    have x3 := (Sa16.out.at 7 rfl).cell
    have x4 := (Sa16.out.at 8 rfl).cell
    have x8 := (Sa16.out.at 12 rfl).cell
    have x9 := (Sa16.out.at 13 rfl).cell
    have x10 := (Sa16.out.at 14 rfl).cell
    have x11 := (Sa16.out.at 15 rfl).cell
    have x0 := (Sa16.out.at 2 rfl).cell
    have x1 := (Sa16.out.at 3 rfl).cell
    go_wp2_with fail
    refine (eqm_yes _ _ X.m _ (MemO.reads (Sa16.out.at 1 rfl)) (MemO.reads (Sa16.out.at 11 rfl)) hs8.out).mono ?_
    rintro e wb16 ⟨rfl, hba⟩
    have Sb16 := hid (Sa16.out.below hba)
    clear hba x2 x3 x4 x8 x9 x10 x11 Sa16 x0 x1
    have x2 := (Sb16.out.at 6 rfl).cell
    have x3 := (Sb16.out.at 7 rfl).cell
    have x4 := (Sb16.out.at 8 rfl).cell
    have x8 := (Sb16.out.at 12 rfl).cell
    have x9 := (Sb16.out.at 13 rfl).cell
    have x10 := (Sb16.out.at 14 rfl).cell
    have x11 := (Sb16.out.at 15 rfl).cell
    have x0 := (Sb16.out.at 2 rfl).cell
    have x1 := (Sb16.out.at 3 rfl).cell
    go_wp2_with fail
    refine (eqcs_yes _ _ X.cy _ (Sb16.out.at 0 rfl) (Sb16.out.at 10 rfl) hln2).mono ?_
    rintro e wc16 ⟨rfl, hba⟩
    have Sc16 := hid (Sb16.out.below hba)
    clear hba x2 x3 x4 x8 x9 x10 x11 Sb16 x0 x1
    have x2 := (Sc16.out.at 6 rfl).cell
    have x3 := (Sc16.out.at 7 rfl).cell
    have x4 := (Sc16.out.at 8 rfl).cell
    have x8 := (Sc16.out.at 12 rfl).cell
    have x9 := (Sc16.out.at 13 rfl).cell
    have x10 := (Sc16.out.at 14 rfl).cell
    have x11 := (Sc16.out.at 15 rfl).cell
    go_wp2_with fail
    refine (heldm _ X.m 1 _ (MemO.reads (Sc16.out.at 5 rfl)) hs8.out (by omega) (by omega)).mono ?_
    rintro e w17 ⟨rfl, hb17⟩
    rw [hk2.out]
    have S17 := hid (Sc16.out.below hb17)
    clear hb17 Sc16 x2 x3 x4 x8 x9 x10 x11
    go_wp2_with fail
    refine (heldc _ k2n X.cy.length _ (S17.out.at 4 rfl) hln2 (by omega)).mono ?_
    rintro e w18 ⟨rfl, hw18⟩
    obtain rfl := hw18.symm
    rw [hk3.out]
    have hBe := hid S17.out.bel
    clear S17
    go_wp2
    go_ret
    exact ⟨rfl, hBe.out⟩

set_option maxRecDepth 100000 in
theorem lifted (os : Os) (started : os.Started) (H : Type) (enc : TypeId × Value → H) :
    ReturnsInHanded {} Try.checked os 4 .any (Rows.fnExactInterruptSpec.pre6 enc Try.prog Try.f4 Rows.fnExactInterruptRow.domain false) (Rows.fnExactInterruptSpec.post enc Try.prog Try.f4 false true false false) := by
  refine returnsInHanded_of_change (C := Try.checked) own started (by kernel_rfl) Try.func4
    (ChangeSpec.witness6 (enc := enc) (C := Try.checked) false ⟨#[], #[cuV ⟨0, 0, 0, 0, 0, 0, 0, 0, 0, 0, 0, false, false, false⟩, .agg #[.slice none 0 0, .slice none 0 0, .int .i64 0, .int .i64 0, .bool false]], []⟩ 8 (by kernel_rfl) (by kernel_rfl) (by kernel_rfl) (by kernel_rfl)) ?_
  intro W base args ds gs before hval0 hW hcnd _
  have hval : ∀ (j : Nat) t v, Try.f4.params[j]? = some t → args[j]? = some v → Value.okWide Try.prog W .any base t v := hval0
  have hW' := hW
  obtain ⟨p, q, hA0, hV, rfl, hfz, hnd⟩ := hW
  have hA : DataW.TrodAll enc Try.prog W 0 (fun _ => true) true Try.f4.params.toList args.toList ds p := hA0
  rw [Try.params4] at hA hval
  obtain ⟨v0, vs0, d0, ds0, p0, q0, hargs, rfl, rfl, h0, r0⟩ := trodAll_cons hA
  obtain ⟨v1, vs1, d1, ds1, p1, q1, rfl, rfl, rfl, h1, r1⟩ := trodAll_cons r0
  obtain ⟨rfl, rfl, rfl⟩ := trodAll_nil r1
  obtain rfl : args = #[v0, v1] := by cases args; simp_all
  obtain ⟨rfl, rfl⟩ := trodVars_none hV
  have k0 := h0
  have lt0 : ∀ x ∈ p0, x.block < W.heap.size := by obtain ⟨m, hm⟩ := k0; exact DataW.trod_lt m _ _ _ hm
  obtain ⟨c0, rfl⟩ := cpu_in (hval 0 40 v0 rfl rfl) h0
  have k1 := h1
  have lt1 : ∀ x ∈ p1, x.block < W.heap.size := by obtain ⟨m, hm⟩ := k1; exact DataW.trod_lt m _ _ _ hm
  obtain ⟨M0, m0, b0⟩ := mem_in (hval 1 41 v1 rfl rfl) h1
  clear hA0 hval0
  refine (walk c0 v1 M0 W m0 b0).mono fun e W' ⟨he, bel⟩ => ?_
  subst he
  exact ⟨_, rfl, _, _, _, [], _, [], hW', (trodAll_cons_mk (shut_bool Try.underlying4 _) trodAll_mk0), (trodAll_cons_mk (Below.trod laidOut (by kernel_rfl) (of_decide_eq_true (by kernel_rfl)) k0 bel lt0) (trodAll_cons_mk (Below.trod laidOut (by kernel_rfl) (of_decide_eq_true (by kernel_rfl)) k1 bel lt1) trodAll_mk0)), rfl, bel.frame _, fun h => by cases h⟩

theorem said : Rows.FnExactInterruptSaid :=
  OpenClaim.holds_of_wide 4 Try.f4 rfl rfl rfl rfl rfl rfl rfl ⟨rfl, rfl, rfl, rfl, rfl⟩ rfl rfl rfl rfl rfl (by kernel_rfl) Try.func4 (by kernel_rfl)
    (of_decide_eq_true (by kernel_rfl)) (by unfold Func.isWrapper; first | (rw [if_pos (by decide +kernel)]; kernel_rfl) | (rw [if_neg (by decide +kernel)]; exact ⟨rfl, rfl⟩))
    (fun os started H enc _ => lifted os started H enc)
end Go.Proofs.Ytiidkhfigifmjaa.fnExactInterrupt
namespace Go.Proofs.Ytiidkhfigifmjaa
theorem fnExactInterrupt_holds : Rows.FnExactInterruptSaid := fnExactInterrupt.said
#print axioms fnExactInterrupt_holds
end Go.Proofs.Ytiidkhfigifmjaa
